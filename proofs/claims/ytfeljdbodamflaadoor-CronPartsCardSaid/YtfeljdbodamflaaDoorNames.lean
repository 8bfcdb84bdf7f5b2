/-
  Names of months and days, and the texts whose answers the document fixes (plain bytes, no program).
-/
import Derived.Test.YtfeljdbodamflaaDoorBack
namespace Crn

theorem month_name : ∀ m, m < 12 → field 3 (monthNames.getD m []) = some (2 ^ (m + 1)) := by decide +kernel
theorem month_great : ∀ m, m < 12 → field 3 ((monthNames.getD m []).map (· - 32)) = some (2 ^ (m + 1)) := by decide +kernel
theorem month_number : ∀ m, m < 12 → field 3 (two (m + 1)) = some (2 ^ (m + 1)) := by decide +kernel
theorem day_name : ∀ d, d < 8 → field 4 (dayNames.getD (d % 7) []) = some (2 ^ (d % 7)) := by decide +kernel
theorem day_great : ∀ d, d < 8 → field 4 ((dayNames.getD (d % 7) []).map (· - 32)) = some (2 ^ (d % 7)) := by decide +kernel
theorem day_number : ∀ d, d < 8 → field 4 [UInt8.ofNat (48 + d)] = some (2 ^ (d % 7)) := by decide +kernel
theorem names_plain : (∀ m, m < 12 → ∀ b ∈ monthNames.getD m [], isBlank b = false) ∧ (∀ m, m < 12 → ∀ b ∈ (monthNames.getD m []).map (· - 32), isBlank b = false) ∧
    (∀ d, d < 8 → ∀ b ∈ dayNames.getD (d % 7) [], isBlank b = false) ∧ (∀ d, d < 8 → ∀ b ∈ (dayNames.getD (d % 7) []).map (· - 32), isBlank b = false) := by decide +kernel

theorem awake_one : parse [42, 47, 49, 53, 32, 48, 45, 54, 47, 50, 32, 49, 44, 49, 53, 32, 106, 97, 110, 45, 109, 97, 114, 32, 109, 111, 110] = some ⟨1 + 2 ^ 15 + 2 ^ 30 + 2 ^ 45, 85, 2 + 2 ^ 15, 14, 2, false, false, 0⟩ := by decide +kernel
theorem awake_two : parse [32, 48, 32, 48, 9, 49, 51, 32, 42, 32, 53, 32, 45, 48, 49, 51, 48, 32] = some ⟨1, 1, 2 ^ 13, 8190, 32, false, false, -90⟩ := by decide +kernel
theorem awake_three : parse [54, 48, 32, 42, 32, 42, 32, 42, 32, 42] = none := by decide +kernel
theorem awake_days : day ⟨1, 1, 2 ^ 13, 8190, 32, false, false, -90⟩ 2 13 1 = true ∧ day ⟨1, 1, 2 ^ 13, 8190, 32, false, false, -90⟩ 2 9 5 = true ∧ day ⟨1, 1, 2 ^ 13, 8190, 32, false, false, -90⟩ 2 9 1 = false := by decide +kernel
theorem awake_text : text ⟨1, 1, 2 ^ 13, 8190, 32, false, false, -90⟩ = [48, 32, 48, 32, 49, 51, 32, 49, 44, 50, 44, 51, 44, 52, 44, 53, 44, 54, 44, 55, 44, 56, 44, 57, 44, 49, 48, 44, 49, 49, 44, 49, 50, 32, 53, 32, 45, 48, 49, 51, 48] := by decide +kernel
end Crn
