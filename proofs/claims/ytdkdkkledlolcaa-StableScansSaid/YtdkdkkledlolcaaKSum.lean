/-
  (*Table).Sum and (*Table).Made: the sum of any text by a table that is ready or new; how often it was made.
-/
import Derived.Test.YtdkdkkledlolcaaKOnce
namespace Go.Proofs.Ytdkdkkledlolcaa.K
open Go.RowKit Crc
set_option maxRecDepth 100000

theorem makeFunc_run : ∀ (fn : Fn) (first cap : Array Value) (w : World), (Instr.makeFunc fn first cap).run Try.prog w = .ok (.func fn first cap) w := fun _ _ _ _ => rfl

theorem to_xor (c b : Nat) (hc : c < 4294967296) (hb : b < 256) : ∃ x : Nat, bits .xor .u32 (c : Int) (b : Int) = (x : Int) ∧ x < 4294967296 ∧ Hid (x = c ^^^ b) :=
  ⟨c ^^^ b, xor_byte c b hc hb, xor_lt hc (by omega), rfl⟩

/-- One step of a half byte, as the walk spells it. -/
theorem to_half (x : Nat) (hx : x < 4294967296) : ∃ r t y : Nat, r < 16 ∧ bits .and .u32 (x : Int) 15 = (r : Int) ∧ bits .xor .u32 ((x : Int) / 16) (t : Int) = (y : Int) ∧ y < 4294967296 ∧ Hid (t = steps 4 r) ∧ Hid (y = steps 4 x) := by
  refine ⟨x % 16, steps 4 (x % 16), steps 4 x, by omega, ?_, ?_, steps_lt 4 hx, rfl, rfl⟩
  · have := u32_and_nat x 15 hx (by omega)
    rw [show (15 : Nat) = 2 ^ 4 - 1 from rfl, Nat.and_two_pow_sub_one_eq_mod] at this
    exact this
  · have := u32_xor_nat (x / 16) (steps 4 (x % 16)) (by omega) (steps_lt 4 (by omega))
    rw [← steps_four] at this
    simpa using this

set_option maxHeartbeats 800000 in
theorem sum_by (b : Nat) (s : ByteArray) (w : World) (hs : s.size ≤ maxLen) (R : World → Prop)
    (hdo : Hid (Calls Try.prog 50 #[.pointer (some ⟨b, 0, none⟩), .func (.func 51) #[.pointer (some ⟨b, 0, none⟩)] #[]] w fun e w' => e = .returned (.tuple #[]) ∧ Ready w' b ∧ R w')) :
    Calls Try.prog 41 #[.pointer (some ⟨b, 0, none⟩), .string s] w fun e w' => e = .returned (.int .u32 (crc s.data.toList : Nat)) ∧ Ready w' b ∧ R w' := by
  unfold maxLen at hs
  have hmf := makeFunc_run
  go_enter Try.func41, Try.ntmps41
  go_wp2_with fail
  refine hdo.out.mono ?_
  clear hdo
  rintro e w1 ⟨rfl, t, hR⟩
  go_wp2
  go_loop [5, 6] (fun c i => ∃ k : Nat, k ≤ s.size ∧ i = .int .i64 k ∧ c = .int .u32 (crcRun 4294967295 (s.data.toList.take k) : Nat)) (fun _ i => s.size - (intOf i).toNat)
  case atStart => exact ⟨0, by omega, rfl, rfl⟩
  case round =>
    obtain ⟨k, hk, rfl, rfl⟩ := hrel
    have hl := crcRun_lt (s.data.toList.take k) (c := 4294967295) (by omega)
    by_cases hlt : k < s.size
    · have H1 := Lib.hid (crcRun_snoc (s.data.toList.take k) s[k] 4294967295)
      have H2 := Lib.hid (take_snoc s k hlt)
      generalize crcRun 4294967295 (s.data.toList.take k) = c at *
      have hb := UInt8.toNat_lt s[k]
      obtain ⟨x, hx, hxl, ex⟩ := to_xor c s[k].toNat hl hb
      obtain ⟨r1, t1, y, hr1, ha1, hy, hyl, et1, ey⟩ := to_half x hxl
      obtain ⟨r2, t2, z, hr2, ha2, hz, hzl, et2, ez⟩ := to_half y hyl
      have hc1 : w1.cell? ⟨b, 4 + r1, none⟩ = some (.int .u32 t1) := by rw [et1.out]; exact t.ch r1 hr1
      have hc2 : w1.cell? ⟨b, 4 + r2, none⟩ = some (.int .u32 t2) := by rw [et2.out]; exact t.ch r2 hr2
      go_wp2
      go_round
      case rel => exact ⟨k + 1, by omega, by go_num, by rw [H2.out, H1.out, byteStep, ← ex.out, steps_eight, ← ey.out, ← ez.out]⟩
      case measure => simp [intOf]; omega
    · have H3 := Lib.hid (not_nat _ hl)
      go_wp2
      go_ret
      exact ⟨ret_int (by rw [H3.out, List.take_of_length_le (by simp; omega)]; rfl), t, hR⟩

/-- Sum by a table that was made. -/
theorem sum_ready (b : Nat) (s : ByteArray) (w : World) (hs : s.size ≤ maxLen) (t : Ready w b) :
    Calls Try.prog 41 #[.pointer (some ⟨b, 0, none⟩), .string s] w fun e w' => e = .returned (.int .u32 (crc s.data.toList : Nat)) ∧ w = w' :=
  (sum_by b s w hs (fun w' => w = w') ((do_done b _ w t).mono fun _ _ ⟨he, hw⟩ => ⟨he, hw ▸ t, hw⟩)).mono fun _ _ ⟨he, _, hw⟩ => ⟨he, hw⟩

/-- Sum by a new table: it is made. -/
theorem sum_fresh (b : Nat) (s : ByteArray) (w : World) (hs : s.size ≤ maxLen) (t : Fresh w b) :
    Calls Try.prog 41 #[.pointer (some ⟨b, 0, none⟩), .string s] w fun e w' => e = .returned (.int .u32 (crc s.data.toList : Nat)) ∧ Ready w' b ∧ Kept b w w' :=
  sum_by b s w hs (fun w' => Kept b w w') (do_first b w t)

/-- Sum of no table. -/
theorem sum_nil (s : ByteArray) (w : World) : Calls Try.prog 41 #[.pointer none, .string s] w fun e w' => e = .returned (.int .u32 0) ∧ w = w' := by
  go_enter Try.func41, Try.ntmps41
  go_wp2
  go_ret
  exact ⟨rfl, rfl⟩

end Go.Proofs.Ytdkdkkledlolcaa.K
