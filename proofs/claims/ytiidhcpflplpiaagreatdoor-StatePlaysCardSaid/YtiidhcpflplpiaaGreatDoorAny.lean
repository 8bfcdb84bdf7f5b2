/-
  The document's any and sets (layer 4).
-/
import Derived.Test.YtiidhcpflplpiaaGreatDoorRef
namespace Go.Proofs.YtiidhcpflplpiaaGreatDoor
open Go.RowKit Crn

theorem every_lt' (f st : Nat) (hf : f < 5) (h1 : 1 ≤ st) : every f st < 18446744073709551616 := by
  have hs := (okSet_iff.1 (bits_ok (f := f) (a := low f) (b := top f) (step := st) hf (Nat.le_refl _) (top_le f hf).2 (top_le f hf).1)).2
  have e1 : every f st ≤ every f 1 := by
    have h := hs
    unfold Crn.Sub at h
    unfold every at *
    rw [← h]
    exact Nat.and_le_right
  have h2 := every_lt f hf
  have h3 : (2 : Nat) ^ 64 = 18446744073709551616 := by decide
  have := h1
  omega
theorem wrap_pow {m : Nat} (h : m < 64) : IntKind.u64.wrap ((2 : Int) ^ m) = ((2 ^ m : Nat) : Int) := by
  have h2 : 2 ^ m < 18446744073709551616 := Nat.pow_lt_pow_right (a := 2) (by omega) h
  have e0 : (2 : Int) ^ m = ((2 ^ m : Nat) : Int) := by simp
  have key : ∀ q : Nat, q < 18446744073709551616 → IntKind.u64.wrap (q : Int) = (q : Int) := fun q hq => IntWalk.u64_in _ (by omega)
  rw [e0]
  exact key _ h2

def setsV (x : SpecN) : Array Value := #[.int .u64 x.min, .int .u64 x.hour, .int .u64 x.dom, .int .u64 x.mon, .int .u64 x.dow]

set_option maxRecDepth 100000 in
theorem sets_any (x : SpecN) (w : World) :
    Calls Tryz.prog 65 #[specV x] w fun e w' => e = .returned (.agg (setsV x)) ∧ Below w.heap.size w w' := by
  obtain ⟨x0, x1, x2, x3, x4, x5, x6, x7⟩ := x
  simp only [specV, cellsN, setsV]
  go_enter Tryz.func65, Tryz.ntmps65
  go_wp2_with fail
  refine bodyPost_ret (v := .agg #[.int .u64 x0, .int .u64 x1, .int .u64 x2, .int .u64 x3, .int .u64 x4]) ?_ rfl ?_
  · exact results_cell_row rfl _ _ (w.heap.size + 1) 98 #[.int .u64 x0, .int .u64 x1, .int .u64 x2, .int .u64 x3, .int .u64 x4] (0, 0) _ rfl (Go.heap_alloc2_new w _ _) Tryz.underlying98 rfl (by kernel_rfl)
  · exact ⟨rfl, ((Below.refl _ _).alloc (Nat.le_refl _) _).alloc (by simp) _⟩
end Go.Proofs.YtiidhcpflplpiaaGreatDoor
