/-
  highestFirst: the four bytes of a sum, the highest first; the document's own Frame.
-/
import Derived.Test.YtdkdkkledlolcaaKSum
import Derived.Test.YtdkdkkledlolcaaShelf
import Derived.Laws.BytesArg
namespace Go.Proofs.Ytdkdkkledlolcaa.K
open Go.RowKit Crc
set_option maxRecDepth 100000

/-- The four bytes of a sum, the highest first. -/
def tail4 (c : Nat) : List UInt8 := [UInt8.ofNat (c / 16777216), UInt8.ofNat (c / 65536), UInt8.ofNat (c / 256), UInt8.ofNat c]
def tailStr (c : Nat) : ByteArray := ⟨(tail4 c).toArray⟩

theorem ofNat_mod (n : Nat) : UInt8.ofNat (n % 256) = UInt8.ofNat n := by
  apply UInt8.toNat_inj.1; simp

def tailNums (c : Nat) : List Int := [(c : Int) / 16777216, (c : Int) / 65536 % 256, (c : Int) / 256 % 256, (c : Int) % 256]
theorem tailNums_str (c : Nat) : strOfNums (tailNums c) = tailStr c := by
  have e1 : ((c : Int) / 16777216).toNat = c / 16777216 := by omega
  have e2 : ((c : Int) / 65536 % 256).toNat = c / 65536 % 256 := by omega
  have e3 : ((c : Int) / 256 % 256).toNat = c / 256 % 256 := by omega
  have e4 : ((c : Int) % 256).toNat = c % 256 := by omega
  simp only [strOfNums, tailNums, tailStr, tail4, List.map, e1, e2, e3, e4, ofNat_mod]

theorem tail_convert (c : Nat) (w : World) :
    (convert 47 9 (.slice (some ⟨w.heap.size, 0, none⟩) 4 4)).run Try.prog (w.alloc (.cells #[.int .u8 ((c : Int) / 16777216), .int .u8 ((c : Int) / 65536 % 256), .int .u8 ((c : Int) / 256 % 256), .int .u8 ((c : Int) % 256)] 5))
      = .ok (.string (tailStr c)) (w.alloc (.cells #[.int .u8 ((c : Int) / 16777216), .int .u8 ((c : Int) / 65536 % 256), .int .u8 ((c : Int) / 256 % 256), .int .u8 ((c : Int) % 256)] 5)) := by
  rw [← tailNums_str]
  refine run_convert_bytes_arg _ 47 5 Try.underlying47 Try.underlying5 w.heap.size 0 4 4 (tailNums c) rfl (fun i hi => ?_) 9 Try.underlying9
  have hc : i = 0 ∨ i = 1 ∨ i = 2 ∨ i = 3 := by omega
  rcases hc with rfl | rfl | rfl | rfl <;> simp [tailNums]

set_option maxHeartbeats 400000 in
theorem high_any (c : Nat) (hc : c < 4294967296) (w : World) :
    Calls Try.prog 42 #[.int .u32 c] w fun e w' => e = .returned (.string (tailStr c)) ∧ Below w.heap.size w w' := by
  have hcv := tail_convert c w
  go_enter Try.func42, Try.ntmps42
  go_wp2
  go_ret
  exact ⟨rfl, (Below.refl _ _).alloc (Nat.le_refl _) _⟩

/-- A text with its sum. -/
def framed (s : ByteArray) : ByteArray := s ++ tailStr (crc s.data.toList)

theorem tailStr_size (c : Nat) : (tailStr c).size = 4 := rfl

set_option maxHeartbeats 400000 in
theorem refFrame_any (s : ByteArray) (w : World) (hs : s.size ≤ 100000) :
    Calls Try.prog 31 #[.string s] w fun e w' => e = .returned (.string (framed s)) ∧ Below w.heap.size w w' := by
  have hl := crc_lt s.data.toList
  have hm : s.size ≤ maxLen := by unfold maxLen; omega
  have hcv := tail_convert (crc s.data.toList) w
  have hz : ¬ 9223372036854775807 < s.size + (tailStr (crc s.data.toList)).size := by rw [tailStr_size]; omega
  go_enter Try.func31, Try.ntmps31
  go_wp2_with (go_at_call 44; refine (refSum_any s _ hm).mono ?_; rintro e w' ⟨rfl, rfl⟩)
  go_ret
  exact ⟨rfl, (Below.refl _ _).alloc (Nat.le_refl _) _⟩

theorem below_new (w : World) : Below w.heap.size w (w.alloc (.cells newCells 96)) := (Below.refl _ _).alloc (Nat.le_refl _) _

set_option maxHeartbeats 400000 in
/-- New().Sum(s). -/
theorem frame_any (s : ByteArray) (w : World) (hs : s.size ≤ 100000) :
    Calls Try.prog 29 #[.string s] w fun e w' => e = .returned (.tuple #[.string (framed s), .int .u32 (crc s.data.toList : Nat)]) ∧ Below w.heap.size w w' := by
  have hl := crc_lt s.data.toList
  have hm : s.size ≤ maxLen := by unfold maxLen; omega
  have hz : ¬ 9223372036854775807 < s.size + (tailStr (crc s.data.toList)).size := by rw [tailStr_size]; omega
  go_enter Try.func29, Try.ntmps29
  go_wp2_with fail
  refine (new_any _).mono ?_
  rintro e w1 ⟨rfl, rfl⟩
  go_wp2_with fail
  refine (sum_fresh _ s _ hm (fresh_new w)).mono ?_
  rintro e w2 ⟨rfl, -, k2⟩
  have hb2 : Below w.heap.size w w2 := (below_new w).trans (k2.below (Nat.le_refl _) (by simp))
  go_wp2_with fail
  refine (high_any _ hl _).mono ?_
  rintro e w3 ⟨rfl, b3⟩
  have hb3 := hb2.trans (b3.mono hb2.size)
  clear b3 k2 hb2
  go_wp2
  go_ret2
  exact ⟨rfl, hb3⟩

/-- strings.Clone. -/
theorem clone_any (s : ByteArray) (w : World) (hs : s.size ≤ 100000) :
    Calls Try.prog 35 #[.string s] w fun e w' => e = .returned (.string s) ∧ Below w.heap.size w w' := by
  go_enter Try.func35, Try.ntmps35
  go_wp2_with fail
  refine (Try.stringslite_Clone s _ (by omega)).mono ?_
  rintro e w1 ⟨rfl, hb⟩
  go_wp2
  go_ret
  exact ⟨rfl, hb⟩
end Go.Proofs.Ytdkdkkledlolcaa.K
