/-
  The program's week and isBlank (layer 4).
-/
import Derived.Test.YtiidhcpflplpiaaGreatDoorCTab
set_option linter.unusedVariables false
namespace Go.Proofs.YtiidhcpflplpiaaGreatDoor
open Go.RowKit Crn

theorem every_week : bitsN 0 0 6 1 = 127 := by decide +kernel

theorem wk_bits_eq (set : Nat) (hs : set < 18446744073709551616) : bits .and .u64 (bits .or .u64 (set : Int) ((set : Int) / 128)) 127 = ((wk set : Nat) : Int) := by
  have e : ((set : Int) / (128 : Int)) = ((set >>> 7 : Nat) : Int) := by
    rw [Nat.shiftRight_eq_div_pow]
    omega
  have hle : set >>> 7 < 18446744073709551616 := by rw [Nat.shiftRight_eq_div_pow]; omega
  rw [e, u64_or_nat _ _ hs hle]
  exact u64_and_nat _ 127 (Nat.or_lt_two_pow (n := 64) hs hle) (by omega)

set_option maxRecDepth 100000 in
set_option maxHeartbeats 400000 in
theorem week_any (set : Nat) (w : World) (t : Tab w) (hs : set < 18446744073709551616) :
    Calls Tryz.prog 120 #[.int .u64 set] w fun e w' => e = .returned (.int .u64 (wk set : Nat)) ∧ Below w.heap.size w w' := by
  have c8 : w.cell? ⟨0, 8, none⟩ = some (.int .i64 0) := (t.spans 4 (by omega)).1
  have c9 : w.cell? ⟨0, 9, none⟩ = some (.int .i64 6) := (t.spans 4 (by omega)).2
  have ce := Lib.hid (fun W => every_any 0 6 1 W (by omega) (by omega) (by omega) (by omega))
  simp only [spanV, every_week] at ce
  go_enter Tryz.func120, Tryz.ntmps120
  go_wp2_with fail
  refine (ce.out _).mono ?_
  rintro e w5 ⟨rfl, k5⟩
  replace k5 := Lib.hid k5
  go_wp2_with fail
  go_ret
  exact ⟨ret_int (wk_bits_eq set hs), k5.out⟩

theorem isBlank_gives (w : World) : PredAt Tryz.prog 94 #[] encR blankR w := fun W r _ => by
  unfold FnGives
  by_cases h1 : r = 32
  · subst h1
    go_enter Tryz.func94, Tryz.ntmps94
    go_wp2
    go_ret
    exact ⟨rfl, 0, rfl⟩
  · have e1 : ((r : Int) == 32) = false := by simp; omega
    by_cases h2 : r = 9
    · subst h2
      go_enter Tryz.func94, Tryz.ntmps94
      go_wp2
      go_ret
      exact ⟨rfl, 0, rfl⟩
    · have e2 : ((r : Int) == 9) = false := by simp; omega
      have hb : Hid (blankR r = false) := by simp [Hid, blankR, h1, h2]
      clear h1 h2
      go_enter Tryz.func94, Tryz.ntmps94
      go_wp2
      go_ret
      exact ⟨by rw [hb.out]; rfl, 0, rfl⟩
end Go.Proofs.YtiidhcpflplpiaaGreatDoor
