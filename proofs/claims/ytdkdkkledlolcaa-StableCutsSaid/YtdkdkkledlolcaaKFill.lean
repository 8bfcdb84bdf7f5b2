/-
  (*Table).fill: the sixteen sums of half bytes, and one more made.
-/
import Derived.Test.YtdkdkkledlolcaaKTab
import Derived.Deep.RegionWith
namespace Go.Proofs.Ytdkdkkledlolcaa.K
open Go.RowKit Crc
set_option maxRecDepth 100000

def halfTo (k : Nat) (i : Nat) : Nat := if i < k then steps 4 i else 0
theorem halfTo_succ (k : Nat) : (fun i => if i = k then steps 4 k else halfTo k i) = halfTo (k + 1) := by
  funext i
  unfold halfTo
  by_cases h : i = k
  · subst h; simp
  · rw [if_neg h]
    by_cases h2 : i < k
    · rw [if_pos h2, if_pos (by omega)]
    · rw [if_neg h2, if_neg (by omega)]

theorem Tab.congr {w : World} {b : Nat} {d s m : Int} {h h' : Nat → Nat} (t : Tab w b d s m h) (e : ∀ i, i < 16 → h i = h' i) : Tab w b d s m h' :=
  ⟨t.lt, t.c0, t.c1, t.c3, fun i hi => by rw [← e i hi]; exact t.ch i hi, t.fz⟩

def FillRel (b : Nat) (w : World) (k : Nat) (wr : World) : Prop := Tab wr b 0 1 0 (halfTo k) ∧ Kept b w wr

theorem divideHalf_wrap (k : Nat) (w : World) (hk : k < 16) :
    Calls Try.prog 57 #[.int .u32 (IntKind.u32.wrap k)] w fun e w' => e = .returned (.int .u32 (steps 4 k : Nat)) ∧ w = w' := by
  rw [show IntKind.u32.wrap (k : Int) = (k : Int) from IntWalk.u32_in _ (by omega)]
  exact divideHalf_any k w (by omega)

set_option maxHeartbeats 400000 in
theorem fill_any (b : Nat) (w : World) (t : Tab w b 0 1 0 (fun _ => 0)) :
    Calls Try.prog 51 #[.pointer (some ⟨b, 0, none⟩)] w fun e w' => e = .returned (.tuple #[]) ∧ Tab w' b 0 1 1 (fun i => steps 4 i) ∧ Kept b w w' := by
  go_enter Try.func51, Try.ntmps51
  go_wp2
  go_loopw [3] (fun i wr => ∃ k : Nat, k ≤ 16 ∧ i = .int .i64 k ∧ FillRel b w k wr) (fun i _ => 16 - (intOf i).toNat)
  case atStart => exact ⟨0, by omega, rfl, ⟨t, Kept.refl _ _⟩⟩
  case round =>
    obtain ⟨k, hk, rfl, hr⟩ := hrel
    by_cases hlt : k < 16
    · obtain ⟨tr, kr⟩ := hr
      have hck : wr.cell? ⟨b, 4 + k, none⟩ = some (.int .u32 (halfTo k k : Nat)) := tr.ch k hlt
      have hzk := tr.fz (4 + k)
      have hin : (k : Int) < 16 := by omega
      go_wp2
      go_region_with ((go_at_call 57; refine (divideHalf_wrap k _ (by omega)).mono ?_; rintro e w' ⟨rfl, rfl⟩))
      go_wp2
      exact ⟨⟨k + 1, by omega, by go_num, by rw [← halfTo_succ]; exact (tr.setHalf k _ hlt).drew, (kr.setCell _ _).drew⟩, by simp [intOf]; omega⟩
    · obtain rfl : k = 16 := by omega
      obtain ⟨tr, kr⟩ := hr
      have hc3 := tr.c3
      have hz3 := tr.fz 3
      go_wp2_with (go_at_call 58; refine (int32Add _ _ hc3 hz3).mono ?_; rintro e w' ⟨rfl, rfl⟩)
      go_end0
      exact ⟨rfl, (tr.setMade 1).congr fun i hi => by simp [halfTo, hi], kr.setCell _ _⟩
end Go.Proofs.Ytdkdkkledlolcaa.K
