/-
  crc.Whole and the document's own Whole: the text of a text with its sum, else nothing, for every text of at most 100000 bytes.
-/
import Derived.Test.YtdkdkkledlolcaaKBytes
namespace Go.Proofs.Ytdkdkkledlolcaa.K
open Go.RowKit Crc
set_option maxRecDepth 100000

def body (s : ByteArray) : ByteArray := s.extract 0 (s.size - 4)
def tail (s : ByteArray) : ByteArray := s.extract (s.size - 4) s.size
/-- Is s a text with its sum? -/
def wholeB (s : ByteArray) : Bool := tail s == tailStr (crc (body s).data.toList)

theorem body_size (s : ByteArray) : (body s).size ≤ s.size := by unfold body; simp

set_option maxHeartbeats 400000 in
theorem whole_short (s : ByteArray) (w : World) (h4 : s.size < 4) :
    Calls Try.prog 39 #[.string s] w fun e w' => e = .returned (.tuple #[.string ⟨#[]⟩, .bool false]) ∧ w = w' := by
  go_enter Try.func39, Try.ntmps39
  go_wp2
  go_ret2
  exact ⟨rfl, rfl⟩

/-- What Whole answers: p where q, else nothing. -/
def WholeSays (p : ByteArray) (q : Bool) (e : Ending) : Prop := e = .returned (.tuple #[.string (bif q then p else ⟨#[]⟩), .bool q])

theorem new_kept {w w2 : World} (k : Kept w.heap.size (w.alloc (.cells newCells 96)).drew w2) : Below w.heap.size w w2 :=
  (below_new w).drew.trans (k.below (Nat.le_refl _) (by simp))

set_option maxHeartbeats 400000 in
theorem whole_core (s p t u : ByteArray) (c : Nat) (w : World) (hs : s.size ≤ 100000) (h4 : 4 ≤ s.size) (hb : s.extract 0 (s.size - 4) = p) (ht : s.extract (s.size - 4) s.size = t)
    (hsum : ∀ W, Fresh W w.heap.size → Hid (Calls Try.prog 41 #[.pointer (some ⟨w.heap.size, 0, none⟩), .string p] W fun e w' => e = .returned (.int .u32 c) ∧ Kept w.heap.size W w'))
    (hhigh : ∀ W, Hid (Calls Try.prog 42 #[.int .u32 c] W fun e w' => e = .returned (.string u) ∧ Below W.heap.size W w'))
    (q : Bool) (hne : (t.toList == u.toList) = q) (hp : p.size ≤ 100000) :
    Calls Try.prog 39 #[.string s] w fun e w' => WholeSays p q e ∧ Below w.heap.size w w' := by
  have hn : ((s.size : Int) - 4).toNat = s.size - 4 := by omega
  have Hs := Lib.hid hsum
  have Hh := Lib.hid hhigh
  clear hsum hhigh
  go_enter Try.func39, Try.ntmps39
  go_wp2
  go_region_with (first
    | (go_at_call 40; refine (new_any _).mono ?_; rintro e w1 ⟨rfl, rfl⟩)
    | (go_at_call 41; refine (Hs.out _ (fresh_new w).drew).out.mono ?_; rintro e w2 ⟨rfl, k2⟩; have hb2 := new_kept k2; clear k2)
    | (go_at_call 42; refine (Hh.out _).out.mono ?_; rintro e w3 ⟨rfl, b3⟩; have hb3 := hb2.trans (b3.mono hb2.size); clear b3 hb2))
  all_goals
    clear Hs Hh hne
    cases q
    rotate_left
    · go_wp2_with fail
      refine (clone_any p _ hp).mono ?_
      rintro e w4 ⟨rfl, b4⟩
      have hb4 := hb3.trans (b4.mono hb3.size)
      clear b4 hb3
      go_wp2
      go_ret2
      exact ⟨rfl, hb4⟩
    · go_wp2_with fail
      go_ret2
      exact ⟨rfl, hb3⟩
end Go.Proofs.Ytdkdkkledlolcaa.K
