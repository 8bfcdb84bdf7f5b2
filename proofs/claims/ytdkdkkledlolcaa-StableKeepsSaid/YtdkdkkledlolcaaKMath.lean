/-
  The plain mathematics of CRC-32 on natural numbers: eight steps of a bit are two steps of a half byte; unlike states stay unlike; so texts that differ in one byte have unlike sums. No condition.
-/
namespace Go.Proofs.Ytdkdkkledlolcaa.K.Crc

def poly : Nat := 3988292384
def top : Nat := 4294967296

/-- One bitStep of the division, bit by bit. -/
def bitStep (c : Nat) : Nat := if c % 2 = 1 then (c / 2) ^^^ poly else c / 2
def steps : Nat → Nat → Nat
  | 0, c => c
  | n + 1, c => bitStep (steps n c)
def byteStep (c b : Nat) : Nat := steps 8 (c ^^^ b)
def crcRun (c : Nat) (l : List UInt8) : Nat := l.foldl (fun c b => byteStep c b.toNat) c
def crc (l : List UInt8) : Nat := 4294967295 - crcRun 4294967295 l

theorem xor_div_two (a b : Nat) : (a ^^^ b) / 2 = a / 2 ^^^ b / 2 := by
  apply Nat.eq_of_testBit_eq; intro i
  simp [Nat.testBit_xor, Nat.testBit_div_two]

theorem xor_mod_two (a b : Nat) : (a ^^^ b) % 2 = (a % 2 + b % 2) % 2 := by
  have h := Nat.testBit_xor a b 0
  simp only [Nat.testBit_zero] at h
  rcases Nat.mod_two_eq_zero_or_one a with ha | ha <;> rcases Nat.mod_two_eq_zero_or_one b with hb | hb <;> rcases Nat.mod_two_eq_zero_or_one (a ^^^ b) with hc | hc <;> simp_all

theorem bitStep_xor (a b : Nat) : bitStep (a ^^^ b) = bitStep a ^^^ bitStep b := by
  unfold bitStep
  rw [xor_mod_two, xor_div_two]
  rcases Nat.mod_two_eq_zero_or_one a with ha | ha <;> rcases Nat.mod_two_eq_zero_or_one b with hb | hb <;> simp [ha, hb]
  · rw [Nat.xor_assoc]
  · rw [Nat.xor_assoc, Nat.xor_assoc, Nat.xor_comm poly]
  · rw [Nat.xor_assoc (a / 2), Nat.xor_comm poly, Nat.xor_assoc (b / 2), Nat.xor_self, Nat.xor_zero]

theorem steps_xor (n a b : Nat) : steps n (a ^^^ b) = steps n a ^^^ steps n b := by
  induction n with
  | zero => rfl
  | succ n ih => simp only [steps]; rw [ih, bitStep_xor]

theorem bitStep_double (a : Nat) : bitStep (2 * a) = a := by
  unfold bitStep
  rw [if_neg (by omega)]; omega

theorem split16 (c : Nat) : c = 16 * (c / 16) ^^^ c % 16 := by
  apply Nat.eq_of_testBit_eq; intro i
  rw [Nat.testBit_xor, show (16 : Nat) = 2 ^ 4 from rfl, Nat.testBit_two_pow_mul, Nat.testBit_mod_two_pow, Nat.testBit_div_two_pow]
  by_cases h : 4 ≤ i
  · have : ¬ i < 4 := by omega
    simp [h, this]
  · have : i < 4 := by omega
    simp [h, this]

/-- Four steps are one bitStep of a half byte. -/
theorem steps_four (c : Nat) : steps 4 c = c / 16 ^^^ steps 4 (c % 16) := by
  conv => lhs; rw [split16 c]
  rw [steps_xor]
  congr 1
  have e : 16 * (c / 16) = 2 * (2 * (2 * (2 * (c / 16)))) := by omega
  simp only [steps]
  rw [e, bitStep_double, bitStep_double, bitStep_double, bitStep_double]

theorem steps_add (m n c : Nat) : steps (m + n) c = steps m (steps n c) := by
  induction m with
  | zero => simp [steps]
  | succ m ih => rw [Nat.succ_add]; simp only [steps]; rw [ih]

theorem steps_eight (c : Nat) : steps 8 c = steps 4 (steps 4 c) := steps_add 4 4 c

theorem xor_lt {a b : Nat} (ha : a < 4294967296) (hb : b < 4294967296) : a ^^^ b < 4294967296 := Nat.xor_lt_two_pow (n := 32) ha hb

theorem bitStep_lt {c : Nat} (h : c < 4294967296) : bitStep c < 4294967296 := by
  unfold bitStep
  split
  · exact xor_lt (by omega) (by unfold poly; omega)
  · omega

theorem steps_lt (n : Nat) {c : Nat} (h : c < 4294967296) : steps n c < 4294967296 := by
  induction n with
  | zero => exact h
  | succ n ih => exact bitStep_lt ih

theorem byteStep_lt {c b : Nat} (h : c < 4294967296) (hb : b < 256) : byteStep c b < 4294967296 := steps_lt 8 (xor_lt h (by omega))

theorem crcRun_lt (l : List UInt8) {c : Nat} (h : c < 4294967296) : crcRun c l < 4294967296 := by
  induction l generalizing c with
  | nil => exact h
  | cons b l ih => exact ih (byteStep_lt h (UInt8.toNat_lt b))

/-- The highest bit of a bitStep tells the bit that went. -/
theorem bitStep_top {c : Nat} (h : c < 4294967296) : (bitStep c).testBit 31 = decide (c % 2 = 1) := by
  have h0 : (c / 2).testBit 31 = false := Nat.testBit_lt_two_pow (by omega)
  have hp : poly.testBit 31 = true := by decide
  unfold bitStep
  split <;> rename_i hc <;> simp [Nat.testBit_xor, h0, hp, hc]

theorem bitStep_inj {a b : Nat} (ha : a < 4294967296) (hb : b < 4294967296) (h : bitStep a = bitStep b) : a = b := by
  have ht : decide (a % 2 = 1) = decide (b % 2 = 1) := by rw [← bitStep_top ha, ← bitStep_top hb, h]
  have hm : (a % 2 = 1) ↔ (b % 2 = 1) := by simpa using ht
  unfold bitStep at h
  by_cases hc : a % 2 = 1
  · have hd := hm.1 hc
    rw [if_pos hc, if_pos hd] at h
    have e : a / 2 = b / 2 := by
      have := congrArg (· ^^^ poly) h
      simpa [Nat.xor_assoc] using this
    omega
  · have hd : ¬ b % 2 = 1 := fun x => hc (hm.2 x)
    rw [if_neg hc, if_neg hd] at h
    omega

theorem steps_inj (n : Nat) {a b : Nat} (ha : a < 4294967296) (hb : b < 4294967296) (h : steps n a = steps n b) : a = b := by
  induction n with
  | zero => exact h
  | succ n ih => exact ih (bitStep_inj (steps_lt n ha) (steps_lt n hb) h)

theorem xor_right_inj {a b c : Nat} (h : a ^^^ c = b ^^^ c) : a = b := by
  have := congrArg (· ^^^ c) h
  simpa [Nat.xor_assoc] using this
theorem xor_left_inj {a b c : Nat} (h : c ^^^ a = c ^^^ b) : a = b := by
  rw [Nat.xor_comm c a, Nat.xor_comm c b] at h; exact xor_right_inj h

theorem crcRun_inj (l : List UInt8) {a b : Nat} (ha : a < 4294967296) (hb : b < 4294967296) (h : crcRun a l = crcRun b l) : a = b := by
  induction l generalizing a b with
  | nil => exact h
  | cons x l ih =>
    have hx := UInt8.toNat_lt x
    have := ih (byteStep_lt ha hx) (byteStep_lt hb hx) h
    exact xor_right_inj (steps_inj 8 (xor_lt ha (by omega)) (xor_lt hb (by omega)) this)

theorem crcRun_append (l m : List UInt8) (c : Nat) : crcRun c (l ++ m) = crcRun (crcRun c l) m := by simp [crcRun, List.foldl_append]

theorem crcRun_snoc (l : List UInt8) (b : UInt8) (c : Nat) : crcRun c (l ++ [b]) = byteStep (crcRun c l) b.toNat := by rw [crcRun_append]; rfl

/-- Texts that differ in just one byte have unlike sums. -/
theorem crc_differs (p q : List UInt8) (x y : UInt8) (h : x ≠ y) : crc (p ++ x :: q) ≠ crc (p ++ y :: q) := by
  intro he
  have hr : crcRun 4294967295 (p ++ x :: q) = crcRun 4294967295 (p ++ y :: q) := by
    have h1 := crcRun_lt (p ++ x :: q) (c := 4294967295) (by omega)
    have h2 := crcRun_lt (p ++ y :: q) (c := 4294967295) (by omega)
    unfold crc at he; omega
  rw [crcRun_append, crcRun_append] at hr
  have hp := crcRun_lt p (c := 4294967295) (by omega)
  have hx := UInt8.toNat_lt x
  have hy := UInt8.toNat_lt y
  have h3 := crcRun_inj q (byteStep_lt hp hx) (byteStep_lt hp hy) hr
  have h4 := xor_left_inj (steps_inj 8 (xor_lt hp (by omega)) (xor_lt hp (by omega)) h3)
  exact h (UInt8.toNat_inj.1 h4)

theorem crc_lt (l : List UInt8) : crc l < 4294967296 := by unfold crc; omega

end Go.Proofs.Ytdkdkkledlolcaa.K.Crc
