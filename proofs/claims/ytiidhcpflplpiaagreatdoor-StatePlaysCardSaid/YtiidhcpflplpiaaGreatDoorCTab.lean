/-
  The table of the fields' numbers as it lies in the world, and the contracts of Cut, Split and HasPrefix in plain words (layer 4).
-/
import Derived.Test.YtiidhcpflplpiaaGreatDoorCPart
import Derived.Test.YtiidhcpflplpiaaGreatDoorCut
import Derived.Test.YtiidhcpflplpiaaGreatDoorCPlace
set_option linter.unusedVariables false
namespace Go.Proofs.YtiidhcpflplpiaaGreatDoor
open Go.RowKit Crn

/-- The table cron.spans lies in the world; so does some number in internal/bytealg.MaxLen. -/
structure Tab (w : World) : Prop where
  spans : ∀ f, f < 5 → w.cell? ⟨0, 2 * f, none⟩ = some (.int .i64 (low f : Nat)) ∧ w.cell? ⟨0, 2 * f + 1, none⟩ = some (.int .i64 (top f : Nat))
  most : ∃ m, w.cell? ⟨3, 0, none⟩ = some (.int .i64 m)
  size : max 0 3 < w.heap.size

theorem Tab.below {w w' : World} (t : Tab w) (h : Below w.heap.size w w') : Tab w' := by
  have h0 : 0 < w.heap.size := by have := t.size; omega
  have h1 : 3 < w.heap.size := by have := t.size; omega
  refine ⟨fun f hf => ?_, ?_, Nat.lt_of_lt_of_le t.size h.size⟩
  · obtain ⟨a, b⟩ := t.spans f hf
    exact ⟨(h.cell (p := ⟨0, 2 * f, none⟩) h0).trans a, (h.cell (p := ⟨0, 2 * f + 1, none⟩) h0).trans b⟩
  · obtain ⟨m, hm⟩ := t.most
    exact ⟨m, (h.cell (p := ⟨3, 0, none⟩) h1).trans hm⟩
theorem Tab.alloc {w : World} (t : Tab w) (o : Obj) : Tab (w.alloc o) := t.below ((Below.refl _ _).alloc (Nat.le_refl _) o)

theorem cut_any (s : ByteArray) (c : UInt8) (w : World) (t : Tab w) (hs : s.size ≤ 1000) :
    Calls Tryz.prog 162 #[.string s, .string ⟨#[c]⟩] w fun e w' => e = .returned (.tuple #[.string (bs (Lib.cut s.data.toList [c]).1), .string (bs (Lib.cut s.data.toList [c]).2.1), .bool (Lib.cut s.data.toList [c]).2.2]) ∧ Below w.heap.size w w' := by
  obtain ⟨m, hm⟩ := t.most
  refine (Tryz.strings_Cut s ⟨#[c]⟩ m w (by omega) hm).mono ?_
  rintro e w' ⟨rfl, n, rfl⟩
  exact ⟨rfl, below_drewN (Below.refl _ _) n⟩

theorem split2_any (s : ByteArray) (c : UInt8) (w : World) (t : Tab w) (hs : s.size ≤ 1000) :
    Calls Tryz.prog 143 #[.string s, .string ⟨#[c]⟩] w fun e w' => (∃ v, e = .returned v ∧ Strs w' v (split c s.data.toList)) ∧ Below w.heap.size w w' := by
  obtain ⟨m, hm⟩ := t.most
  have hl : (Lib.splitB ⟨#[c]⟩ 0 (Lib.countB s ⟨#[c]⟩) s).length = Lib.countB s ⟨#[c]⟩ + 1 := Lib.splitB_all ⟨#[c]⟩ (Nat.le_refl 1) 0 _ s rfl
  have hd := Crn.splitB_all c s
  refine (Tryz.strings_Split s ⟨#[c]⟩ m w (by omega) hm (Nat.le_refl 1)).mono ?_
  rintro e w' ⟨rfl, rfl⟩
  generalize Lib.splitB ⟨#[c]⟩ 0 (Lib.countB s ⟨#[c]⟩) s = L at *
  refine ⟨⟨_, rfl, w.heap.size, L.length, ?_, fun i hi => ?_⟩, (Below.refl _ _).alloc (Nat.le_refl _) _⟩
  · rw [← hd, List.length_map, hl]
  · have hi' : i < L.length := by rw [← hd, List.length_map] at hi; exact hi
    have e : (split c s.data.toList)[i] = L[i].data.toList := by simp [← hd]
    rw [World.cell?_alloc_new, e, bs_list]
    simp [hi']

theorem isAny_any (s : ByteArray) (w : World) :
    Calls Tryz.prog 121 #[.string s] w fun e w' => e = .returned (.bool (s.data.toList.head? == some 42)) ∧ w = w' := by
  have c := Lib.hid (Tryz.strings_HasPrefix s ⟨#[42]⟩ w)
  have hp := Lib.hid (prefix_star s.data.toList)
  obtain ⟨q, hq⟩ : ∃ q, Lib.hasPrefix s.data.toList (⟨#[42]⟩ : ByteArray).data.toList = q := ⟨_, rfl⟩
  rw [hq] at c
  rw [← hp.out]
  obtain rfl : Lib.hasPrefix s.data.toList [42] = q := hq
  go_enter Tryz.func121, Tryz.ntmps121
  go_wp2_with fail
  refine c.out.mono ?_
  rintro e w' ⟨rfl, rfl⟩
  go_wp2_with fail
  go_ret
  exact ⟨rfl, rfl⟩
end Go.Proofs.YtiidhcpflplpiaaGreatDoor
