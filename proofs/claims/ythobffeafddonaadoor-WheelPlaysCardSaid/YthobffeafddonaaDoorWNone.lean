/-
  Layer 6: Next of a wheel on which nobody is.
-/
import Derived.Test.YthobffeafddonaaDoorWNext
set_option linter.unusedVariables false
namespace Go.Proofs.YthobffeafddonaaDoor
open Go.RowKit Whl

set_option maxHeartbeats 4000000 in
set_option maxRecDepth 100000 in
theorem next_none (base : Nat) (w : World) (b now : Nat) (O : Nat → Prop) (h : WT base w b now [] O) :
    Calls Tryd.prog 20 #[.pointer (some ⟨b, 0, none⟩)] w fun e w' => e = .returned (.tuple #[.int .i64 0, .bool false]) ∧ Below w.heap.size w w' := by
  obtain ⟨m, V, F, L, t, hS, tm, tok, o1, o2⟩ := h.ex
  have hem : ∀ c, L c = [] := fun c => List.length_eq_zero_iff.1 (Nat.le_zero.1 (hS.ok.len c))
  have c2 := hS.wh.slot 2 (.inl rfl)
  obtain ⟨a2, cap2, hv2, _, _, _⟩ := (hS.wh.row 2 (.inl rfl)).look
  rw [hem 2] at hv2
  rw [hv2] at c2
  simp only [List.length_nil] at c2
  have cs := hS.wh.slot 393 (.inr (.inl rfl))
  obtain ⟨a3, cap3, hv3, _, _, _⟩ := (hS.wh.row 393 (.inr (.inl rfl))).look
  rw [hem 393] at hv3
  rw [hv3] at cs
  simp only [List.length_nil] at cs
  replace hS := Lib.hid hS
  replace hem := Lib.hid hem
  replace cs := Lib.hid cs
  clear h tm tok o1 o2 hv2 hv3
  go_enter Tryd.func20, Tryd.ntmps20
  go_wp2_with fail
  clear c2
  go_loopw [22] (fun v wr => ∃ i : Nat, v = .int .i64 i ∧ (i : Int) ≤ 6 ∧ Hid (∀ j, j < i → F j = 0) ∧ w = wr) (fun v _ => (6 - intOf v).toNat)
  case atStart => exact ⟨0, rfl, by omega, fun j hj => by omega, rfl⟩
  case round =>
    obtain ⟨i, rfl, hi, hlow, rfl⟩ := hrel
    by_cases hi6 : (i : Int) < 6
    · have hi7 : i < 6 := by omega
      have cf := hS.out.wh.full i hi7
      by_cases h0 : F i = 0
      · have c1 := Lib.hid (first_none b (3 + i * 65) w (by rw [cf, h0]; rfl))
        clear cf
        go_wp2_with fail
        refine c1.out.mono ?_
        rintro e w3 ⟨rfl, rfl⟩
        go_wp2_with fail
        exact ⟨⟨i + 1, by go_num, by omega, fun j hj => by
          rcases Nat.lt_or_ge j i with e | e
          · exact hlow.out j e
          · rw [show j = i by omega]; exact h0, by first | rfl | trivial⟩, by simp [intOf]; omega⟩
      · have hf := bits_first hS.out.bits hi7 h0 hlow.out
        exact absurd (hem.out _) hf.ne
    · have cs := cs.out
      go_wp2_with fail
      go_ret2
      exact ⟨rfl, Below.refl _ _⟩
end Go.Proofs.YthobffeafddonaaDoor
