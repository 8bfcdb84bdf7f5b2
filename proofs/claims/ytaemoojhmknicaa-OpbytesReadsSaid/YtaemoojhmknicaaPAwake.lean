/-
  Layer 10: the answers that the document fixes.
-/
import Derived.Test.YtaemoojhmknicaaPRead
import Derived.Test.YtaemoojhmknicaaPPrint
set_option linter.unusedVariables false
namespace Go.Proofs.Ytaemoojhmknicaa
open Go.RowKit Cod

def opA : OpN := ⟨3, 0, 0, 1, 0, 0, 0, 0, 0, ⟨#[]⟩⟩
def bytesA : ByteArray := ⟨#[3, 0, 0, 2, 0, 0, 0, 0, 0, 0]⟩
theorem okA : okOp opA = true := by decide +kernel
theorem i64_small {n : Int} (h1 : -1000 ≤ n) (h2 : n ≤ 1000) : i64 n := by unfold i64; omega
theorem intA : OpI opA := by
  have h0 : i64 0 := i64_small (by omega) (by omega)
  exact ⟨i64_small (by decide) (by decide), h0, h0, i64_small (by decide) (by decide), h0, h0, h0, h0, h0⟩
theorem enc0 : encB 0 = ⟨#[0]⟩ := by unfold encB; rw [enc_small (by omega)]; rfl
theorem enc2 : encB 2 = ⟨#[2]⟩ := by unfold encB; rw [enc_small (by omega)]; rfl
theorem zig0 : zig 0 = 0 := by decide +kernel
theorem zig1 : zig 1 = 2 := by decide +kernel
theorem bytesA_eq : opB opA = bytesA := by
  have e : numsOf opA = [0, 0, 1, 0, 0, 0, 0, 0] := rfl
  have e2 : (opA.cron).size = 0 := rfl
  rw [opB, e, strB, e2]
  unfold numsB numsB numsB numsB numsB numsB numsB numsB numsB
  rw [zig0, zig1, enc0, enc2]
  decide
theorem read_back {o : OpN} (ho : okOp o = true) (hi : OpI o) : readB (opB o) = true ∧ readO (opB o) = o := by
  obtain ⟨h1, h2⟩ := take_back ⟨#[]⟩ ho hi
  have h3 := took_back ⟨#[]⟩ ho hi
  rw [app_none'] at h1 h2 h3
  have hb : readB (opB o) = true := by unfold readB; rw [h3, h2]; rfl
  refine ⟨hb, ?_⟩
  unfold readO
  rw [if_pos hb, h1]
theorem read_more {o : OpN} {R : ByteArray} (ho : okOp o = true) (hi : OpI o) (hR : R.size ≠ 0) : readB (opB o ++ R) = false := by
  obtain ⟨h1, h2⟩ := take_back R ho hi
  unfold readB
  rw [h2, decide_eq_false hR, Bool.and_false]

theorem awake_any (w : World) : Calls Try.prog 7 #[] w fun e w' => e = .returned (.bool true) ∧ Below w.heap.size w w' := by
  have c1 : Hid (∀ X, Calls Try.prog 8 #[.agg #[.int .i64 3, .int .i64 0, .int .i64 0, .int .i64 1, .int .i64 0, .int .i64 0, .int .i64 0, .int .i64 0, .int .i64 0, .string ⟨#[]⟩]] X fun e w' => e = .returned (.tuple #[.string bytesA, .int .i64 0]) ∧ Below X.heap.size X w') := fun X => by
    have h := print_any opA X intA (by decide)
    rw [show printS opA = bytesA by unfold printS; rw [if_pos okA, bytesA_eq], show printE opA = 0 by unfold printE; rw [if_pos okA]] at h
    exact h
  have c3 : Hid (∀ X, Calls Try.prog 8 #[.agg #[.int .i64 4, .int .i64 0, .int .i64 0, .int .i64 0, .int .i64 0, .int .i64 0, .int .i64 0, .int .i64 0, .int .i64 0, .string ⟨#[]⟩]] X fun e w' => e = .returned (.tuple #[.string ⟨#[]⟩, .int .i64 1]) ∧ Below X.heap.size X w') := fun X => by
    have h0 : i64 0 := i64_small (by omega) (by omega)
    exact print_any ⟨4, 0, 0, 0, 0, 0, 0, 0, 0, ⟨#[]⟩⟩ X ⟨i64_small (by decide) (by decide), h0, h0, h0, h0, h0, h0, h0, h0⟩ (by decide)
  have c2 : Hid (∀ X, ∃ o, Calls Try.prog 10 #[.string (bytesA ++ ⟨#[120]⟩)] X fun e w' => e = .returned (.tuple #[opV o, .int .i64 3]) ∧ Below X.heap.size X w') := fun X => by
    have h := opread_any (bytesA ++ ⟨#[120]⟩) X (by decide)
    rw [show readE (bytesA ++ ⟨#[120]⟩) = 3 by unfold readE; rw [← bytesA_eq, read_more okA intA (by decide)]; rfl] at h
    exact ⟨_, h⟩
  have c4 : Hid (∀ X, Calls Try.prog 10 #[.string bytesA] X fun e w' => e = .returned (.tuple #[.agg #[.int .i64 3, .int .i64 0, .int .i64 0, .int .i64 1, .int .i64 0, .int .i64 0, .int .i64 0, .int .i64 0, .int .i64 0, .string ⟨#[]⟩], .int .i64 0]) ∧ Below X.heap.size X w') := fun X => by
    have h := opread_any bytesA X (by decide)
    obtain ⟨h1, h2⟩ := read_back okA intA
    rw [bytesA_eq] at h1 h2
    rw [h2, show readE bytesA = 0 by unfold readE; rw [if_pos h1]] at h
    exact h
  have hl : (bytesA.toList == [3, 0, 0, 2, 0, 0, 0, 0, 0, 0]) = true := by decide +kernel
  go_enter Try.func7, Try.ntmps7
  go_wp2_with fail
  refine (c1.out _).mono ?_
  rintro e w1 ⟨rfl, b1⟩
  replace b1 := Lib.hid b1
  go_wp2_with fail
  obtain ⟨o, c2⟩ := c2.out w1
  refine c2.mono ?_
  rintro e w2 ⟨rfl, b2⟩
  replace b1 := Lib.hid ((b1.out.trans (b2.mono b1.out.size)).alloc (b1.out.trans (b2.mono b1.out.size)).size (Obj.cells (opC o) 23))
  clear b2 c2
  go_wp2_with fail
  refine (c3.out _).mono ?_
  rintro e w3 ⟨rfl, b3⟩
  replace b1 := Lib.hid (b1.out.trans (b3.mono b1.out.size))
  clear b3
  go_wp2_with fail
  refine (c4.out _).mono ?_
  rintro e w4 ⟨rfl, b4⟩
  replace b1 := Lib.hid (b1.out.trans (b4.mono b1.out.size))
  clear b4
  go_wp2_with fail
  go_ret
  exact ⟨rfl, b1.out.alloc b1.out.size _⟩
end Go.Proofs.Ytaemoojhmknicaa
