/-
  The document's low, high and number (layer 4): the numbers of a field, and a number of one or two digits.
-/
import Derived.Test.YtiidhcpflplpiaaGreatDoorRows
import Derived.Test.YtiidhcpflplpiaaGreatDoorMath
import Derived.Laws.BitsAllLaws
import Derived.Lib.Hide
import Derived.WalkKit
import Derived.WalkSpells
import Derived.WalkLawsBesides
import Derived.Laws.BytesArg
namespace Go.Proofs.YtiidhcpflplpiaaGreatDoor
open Go.RowKit Crn

theorem ret_int {k : IntKind} {a b : Int} (h : a = b) : Ending.returned (.int k a) = .returned (.int k b) := by rw [h]
theorem ret_bool {a b : Bool} (h : a = b) : Ending.returned (.bool a) = .returned (.bool b) := by rw [h]

/-- A text of these bytes. -/
def bs (l : Bytes) : ByteArray := ⟨l.toArray⟩
theorem bs_list (s : ByteArray) : bs s.data.toList = s := rfl
theorem bs_toList (l : Bytes) : (bs l).data.toList = l := rfl
theorem bs_size (l : Bytes) : (bs l).size = l.length := by simp [bs, ByteArray.size]

/-- A number that may not be there: -1. -/
def orNone : Option Nat → Int
  | some n => n
  | none => -1

theorem low_any (f : Nat) (w : World) (hf : f < 5) :
    Calls Tryz.prog 82 #[.int .i64 f] w fun e w' => e = .returned (.int .i64 (low f : Nat)) ∧ w = w' := by
  have : f = 0 ∨ f = 1 ∨ f = 2 ∨ f = 3 ∨ f = 4 := by omega
  rcases this with rfl | rfl | rfl | rfl | rfl
  all_goals
    go_enter Tryz.func82, Tryz.ntmps82
    go_wp2
    go_ret
    exact ⟨rfl, rfl⟩

theorem high_any (f : Nat) (w : World) (hf : f < 5) :
    Calls Tryz.prog 83 #[.int .i64 f] w fun e w' => e = .returned (.int .i64 (high f : Nat)) ∧ Below w.heap.size w w' := by
  have : f = 0 ∨ f = 1 ∨ f = 2 ∨ f = 3 ∨ f = 4 := by omega
  rcases this with rfl | rfl | rfl | rfl | rfl
  all_goals
    go_enter Tryz.func83, Tryz.ntmps83
    go_wp2
    go_ret
    exact ⟨rfl, (Below.refl _ _).alloc (Nat.le_refl _) _⟩

/-! Numbers. -/
def digits : Bytes → Nat → Option Nat
  | [], n => some n
  | b :: r, n => match digit b with
    | some d => digits r (n * 10 + d)
    | none => none
theorem number_digits (l : Bytes) (h1 : 1 ≤ l.length) (h2 : l.length ≤ 2) : number l = digits l 0 := by
  match l with
  | [] => simp at h1
  | [a] => simp only [number, digits]; cases digit a <;> simp
  | [a, b] => simp only [number, digits]; cases digit a <;> cases digit b <;> simp
  | _ :: _ :: _ :: _ => simp at h2
theorem number_none {l : Bytes} (h : l.length < 1 ∨ 2 < l.length) : number l = none := by
  match l with
  | [] => rfl
  | [a] => simp at h
  | [a, b] => simp at h
  | _ :: _ :: _ :: _ => rfl
theorem digit_some {b : UInt8} (h1 : 48 ≤ b.toNat) (h2 : b.toNat ≤ 57) : digit b = some (b.toNat - 48) := by
  unfold digit
  rw [if_pos ⟨UInt8.le_iff_toNat_le.2 (by simpa using h1), UInt8.le_iff_toNat_le.2 (by simpa using h2)⟩]
theorem digit_none {b : UInt8} (h : ¬ (48 ≤ b.toNat ∧ b.toNat ≤ 57)) : digit b = none := by
  unfold digit
  rw [if_neg (fun e => h ⟨by simpa using UInt8.le_iff_toNat_le.1 e.1, by simpa using UInt8.le_iff_toNat_le.1 e.2⟩)]
theorem drop_cons (s : ByteArray) (k : Nat) (h : k < s.size) : s.data.toList.drop k = s[k] :: s.data.toList.drop (k + 1) := by
  rw [List.drop_eq_getElem_cons (by simpa using h)]; rfl

set_option maxRecDepth 100000 in
set_option maxHeartbeats 400000 in
theorem number_any (s : ByteArray) (w : World) (hs : s.size ≤ 1000) :
    Calls Tryz.prog 64 #[.string s] w fun e w' => e = .returned (.int .i64 (orNone (number s.data.toList))) ∧ w = w' := by
  by_cases h1 : s.size < 1
  · have hn : Hid (number s.data.toList = none) := number_none (by left; simpa using h1)
    go_enter Tryz.func64, Tryz.ntmps64
    go_wp2_with fail
    go_ret
    exact ⟨by rw [hn.out]; rfl, rfl⟩
  · by_cases h2 : 2 < s.size
    · have hn : Hid (number s.data.toList = none) := number_none (by right; simpa using h2)
      go_enter Tryz.func64, Tryz.ntmps64
      go_wp2_with fail
      go_ret
      exact ⟨by rw [hn.out]; rfl, rfl⟩
    · have hn : Hid (number s.data.toList = digits s.data.toList 0) := number_digits _ (by simp; omega) (by simp; omega)
      have e1 : decide ((s.size : Int) < 1) = false := by simp; omega
      have e2 : decide (2 < (s.size : Int)) = false := by simp; omega
      go_enter Tryz.func64, Tryz.ntmps64
      go_wp2_with fail
      clear e1 e2
      go_loop [3, 4] (fun a i => ∃ k n : Nat, k ≤ s.size ∧ n < 10 ^ k ∧ i = .int .i64 k ∧ a = .int .i64 n ∧ Hid (digits (s.data.toList.drop k) n = number s.data.toList)) (fun _ i => 2 - (intOf i).toNat)
      case atStart => exact ⟨0, 0, by omega, by omega, rfl, rfl, by rw [hn.out]; rfl⟩
      case round =>
        obtain ⟨k, n, hk, hb, rfl, rfl, hd⟩ := hrel
        have hb2 : n ≤ 100 := Nat.le_trans (Nat.le_of_lt hb) (Nat.le_trans (Nat.pow_le_pow_right (by omega) (show k ≤ 2 by omega)) (by decide))
        by_cases hlt : k < s.size
        · have hc := Lib.hid (drop_cons s k hlt)
          have hb' := Lib.hid hb
          clear hb
          have hu := UInt8.toNat_lt s[k]
          by_cases g1 : 48 ≤ s[k].toNat
          · by_cases g2 : s[k].toNat ≤ 57
            · have hg := Lib.hid (digit_some g1 g2)
              go_wp2_with fail
              go_round
              case rel =>
                refine ⟨k + 1, n * 10 + (s[k].toNat - 48), by omega, ?_, by go_num, by go_num, ?_⟩
                · have := hb'.out; rw [Nat.pow_succ]; omega
                · have := hd.out
                  rw [hc.out] at this
                  simp only [digits, hg.out] at this
                  exact this
              case measure => simp [intOf]; omega
            · have hg := Lib.hid (digit_none (b := s[k]) (by omega))
              go_wp2_with fail
              go_ret
              refine ⟨?_, rfl⟩
              have := hd.out
              rw [hc.out] at this
              simp only [digits, hg.out] at this
              rw [← this]; rfl
          · have hg := Lib.hid (digit_none (b := s[k]) (by omega))
            go_wp2_with fail
            go_ret
            refine ⟨?_, rfl⟩
            have := hd.out
            rw [hc.out] at this
            simp only [digits, hg.out] at this
            rw [← this]; rfl
        · have he : Hid (s.data.toList.drop k = []) := List.drop_eq_nil_of_le (by simp; omega)
          go_wp2_with fail
          go_ret
          refine ⟨?_, rfl⟩
          have := hd.out
          rw [he.out] at this
          rw [← this]; rfl
end Go.Proofs.YtiidhcpflplpiaaGreatDoor
