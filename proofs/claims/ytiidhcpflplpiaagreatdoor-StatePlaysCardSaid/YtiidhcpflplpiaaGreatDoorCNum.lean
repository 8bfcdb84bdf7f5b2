/-
  The program's parseNumber (layer 4): a number of one or two digits, or none.
-/
import Derived.Test.YtiidhcpflplpiaaGreatDoorNum
namespace Go.Proofs.YtiidhcpflplpiaaGreatDoor
open Go.RowKit Crn

/-- A number and whether it is there; what stands for none is 0. -/
def answerN : Option Nat → Ending
  | some n => .returned (.tuple #[.int .i64 n, .bool true])
  | none => .returned (.tuple #[.int .i64 0, .bool false])

set_option maxRecDepth 100000 in
set_option maxHeartbeats 400000 in
theorem parseNumber_any (s : ByteArray) (w : World) (hs : s.size ≤ 1000) :
    Calls Tryz.prog 122 #[.string s] w fun e w' => e = answerN (number s.data.toList) ∧ w = w' := by
  by_cases h1 : s.size < 1
  · have hn : Hid (number s.data.toList = none) := number_none (by left; simpa using h1)
    go_enter Tryz.func122, Tryz.ntmps122
    go_wp2_with fail
    go_ret2
    exact ⟨by rw [hn.out]; rfl, rfl⟩
  · by_cases h2 : 2 < s.size
    · have hn : Hid (number s.data.toList = none) := number_none (by right; simpa using h2)
      go_enter Tryz.func122, Tryz.ntmps122
      go_wp2_with fail
      go_ret2
      exact ⟨by rw [hn.out]; rfl, rfl⟩
    · have hn : Hid (number s.data.toList = digits s.data.toList 0) := number_digits _ (by simp; omega) (by simp; omega)
      have e1 : decide ((s.size : Int) < 1) = false := by simp; omega
      have e2 : decide (2 < (s.size : Int)) = false := by simp; omega
      go_enter Tryz.func122, Tryz.ntmps122
      go_wp2_with fail
      clear e1 e2
      go_loop [4, 16] (fun a i => ∃ k n : Nat, k ≤ s.size ∧ n < 10 ^ k ∧ i = .int .i64 k ∧ a = .int .i64 n ∧ Hid (digits (s.data.toList.drop k) n = number s.data.toList)) (fun _ i => 2 - (intOf i).toNat)
      case atStart => exact ⟨0, 0, by omega, by omega, rfl, rfl, by rw [hn.out]; rfl⟩
      case round =>
        obtain ⟨k, n, hk, hb, rfl, rfl, hd⟩ := hrel
        have hb2 : n ≤ 100 := Nat.le_trans (Nat.le_of_lt hb) (Nat.le_trans (Nat.pow_le_pow_right (by omega) (show k ≤ 2 by omega)) (by decide))
        by_cases hlt : k < s.size
        · have hc := Lib.hid (drop_cons s k hlt)
          have hb' := Lib.hid hb
          clear hb
          have hu := UInt8.toNat_lt s[k]
          by_cases g1 : 48 ≤ s[k].toNat
          · by_cases g2 : s[k].toNat ≤ 57
            · have hg := Lib.hid (digit_some g1 g2)
              go_wp2_with fail
              go_round
              case rel =>
                refine ⟨k + 1, n * 10 + (s[k].toNat - 48), by omega, ?_, by go_num, by go_num, ?_⟩
                · have := hb'.out; rw [Nat.pow_succ]; omega
                · have := hd.out
                  rw [hc.out] at this
                  simp only [digits, hg.out] at this
                  exact this
              case measure => simp [intOf]; omega
            · have hg := Lib.hid (digit_none (b := s[k]) (by omega))
              go_wp2_with fail
              go_ret2
              refine ⟨?_, rfl⟩
              have := hd.out
              rw [hc.out] at this
              simp only [digits, hg.out] at this
              rw [← this]; rfl
          · have hg := Lib.hid (digit_none (b := s[k]) (by omega))
            go_wp2_with fail
            go_ret2
            refine ⟨?_, rfl⟩
            have := hd.out
            rw [hc.out] at this
            simp only [digits, hg.out] at this
            rw [← this]; rfl
        · have he : Hid (s.data.toList.drop k = []) := List.drop_eq_nil_of_le (by simp; omega)
          go_wp2_with fail
          go_ret2
          refine ⟨?_, rfl⟩
          have := hd.out
          rw [he.out] at this
          rw [← this]; rfl
end Go.Proofs.YtiidhcpflplpiaaGreatDoor
