/-
  Layer 6: what Set refuses.
-/
import Derived.Test.YthobffeafddonaaDoorWNext
set_option linter.unusedVariables false
namespace Go.Proofs.YthobffeafddonaaDoor
open Go.RowKit Whl

set_option maxRecDepth 100000 in
theorem set_refused (b : Nat) (id a : Int) (w : World) (h : id < 0 ∨ 1048576 < id ∨ a < 0 ∨ 1099511627776 < a) : Calls Tryd.prog 11 #[.pointer (some ⟨b, 0, none⟩), .int .i64 id, .int .i64 a] w fun e w' => e = .returned (.int .i64 1) ∧ w = w' := by
  by_cases h1 : id < 0
  · exact set_arg b id a w h1
  · have g1 : decide (id < 0) = false := decide_eq_false h1
    by_cases h2 : 1048576 < id
    · have g2 : decide (1048576 < id) = true := decide_eq_true h2
      clear h h1 h2
      go_enter Tryd.func11, Tryd.ntmps11
      go_wp2_with fail
      go_ret
      exact ⟨rfl, rfl⟩
    · have g2 : decide (1048576 < id) = false := decide_eq_false h2
      by_cases h3 : a < 0
      · have g3 : decide (a < 0) = true := decide_eq_true h3
        clear h h1 h2 h3
        go_enter Tryd.func11, Tryd.ntmps11
        go_wp2_with fail
        go_ret
        exact ⟨rfl, rfl⟩
      · have g3 : decide (a < 0) = false := decide_eq_false h3
        have g4 : decide (1099511627776 < a) = true := decide_eq_true (by omega)
        clear h h1 h2 h3
        go_enter Tryd.func11, Tryd.ntmps11
        go_wp2_with fail
        go_ret
        exact ⟨rfl, rfl⟩
set_option maxHeartbeats 2000000 in
set_option maxRecDepth 100000 in
theorem set_full (base : Nat) (w : World) (b now : Nat) (l : List ItemN) (O : Nat → Prop) (id a : Nat) (h : WT base w b now l O) (hn : ∀ p, p ∈ l → p.2 ≠ id) (hid : id ≤ 1048576) (ha : a ≤ 1099511627776) (hl : 1000 ≤ l.length) :
    Calls Tryd.prog 11 #[.pointer (some ⟨b, 0, none⟩), .int .i64 id, .int .i64 a] w fun e w' => e = .returned (.int .i64 5) ∧ w = w' := by
  obtain ⟨m, V, F, L, t, hS, tm, tok, o1, o2⟩ := h.ex
  have hid2 : (id : Int) ≤ 1048576 := by omega
  have ha2 : (a : Int) ≤ 1099511627776 := by omega
  have c1 := hS.wh.times
  have hl2 : (1000 : Int) ≤ (t.length : Int) := by rw [tok.len]; omega
  rcases tm with ⟨rfl, rfl⟩ | ⟨mb, rfl, hmb, im⟩
  · simp at hl2
  · have hlk := int_look_none im tok.small (id : Int) (by omega) (by omega) (fun p hp e => tok.not hn p hp (by omega))
    have hln := im.len 3
    clear h hS tok o1 o2 hn hid ha hl im
    generalize t.length = n at *
    go_enter Tryd.func11, Tryd.ntmps11
    go_wp2_with fail
    go_ret
    exact ⟨rfl, rfl⟩
end Go.Proofs.YthobffeafddonaaDoor
