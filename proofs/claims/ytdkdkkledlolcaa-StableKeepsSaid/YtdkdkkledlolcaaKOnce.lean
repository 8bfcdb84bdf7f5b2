/-
  (*sync.Once).Do over a table: not yet done: the table is filled, and the Once is done; done already: nothing turns.
-/
import Derived.Test.YtdkdkkledlolcaaKFill
namespace Go.Proofs.Ytdkdkkledlolcaa.K
open Go.RowKit Crc
set_option maxRecDepth 100000

theorem not_run : ∀ (x : Bool) (w : World), (Op.unary .not (.bool x)).run Try.prog w = .ok (.bool (!x)) w := fun _ _ => rfl

set_option maxRecDepth 100000 in
set_option maxHeartbeats 1600000 in
/-- '(*sync.Once).doSlow', not yet done and the lock free. -/
theorem slow_any (b : Nat) (w : World) (t : Fresh w b) :
    Calls Try.prog 56 #[.pointer (some ⟨b, 0, none⟩), .func (.func 51) #[.pointer (some ⟨b, 0, none⟩)] #[]] w fun e w' => e = .returned (.tuple #[]) ∧ Ready w' b ∧ Kept b w w' := by
  have t1 := Tab.setState t 1
  have hz1 := t.fz 1
  have hc1 := t.c1
  have hnot := not_run
  go_enter_defers Try.func56, Try.ntmps56
  go_wp2_with (go_at_call 61; refine (lock_free ⟨b, 1, none⟩ _ hc1 hz1).mono ?_; rintro e w' ⟨rfl, rfl⟩)
  refine (boolLoad ⟨b, 0, none⟩ 0 _ t1.c0).mono ?_
  rintro e w' ⟨rfl, rfl⟩
  go_wp2_with fail
  refine (fill_any b _ t1).mono ?_
  rintro e w2 ⟨rfl, t2, k2⟩
  go_wp2
  refine leaves_cons (f := 63) (args := #[.pointer (some ⟨b, 0, none⟩), .bool true]) (by simp) (by simp [go_sem]) ?_
  refine (store_deferred ⟨b, 0, none⟩ (.int .u32 0) .returning _ t2.c0 (t2.fz 0)).mono ?_
  rintro e u' w'' ⟨rfl, rfl, rfl⟩
  have t3 := t2.drew.setDone 1
  refine leaves_cons (f := 62) (args := #[.pointer (some ⟨b, 1, none⟩)]) (by simp [settle]) (by simp [go_sem]) ?_
  refine (unlock_deferred ⟨b, 1, none⟩ _ _ t3.c1 (t3.fz 1)).mono ?_
  rintro e u' w'' ⟨rfl, rfl, rfl⟩
  have t4 : Ready _ b := t3.setState 0
  have k4 : Kept b w _ := (((((Kept.refl b w).setCell 1 (.int .i32 1)).trans k2).drew).setCell 0 (.int .u32 1)).setCell 1 (.int .i32 0)
  simp [Leaves, settle, results, Try.results56]
  exact ⟨t4, k4⟩

set_option maxRecDepth 100000 in
set_option maxHeartbeats 1600000 in
/-- '(*sync.Once).Do', not yet done. -/
theorem do_first (b : Nat) (w : World) (t : Fresh w b) :
    Calls Try.prog 50 #[.pointer (some ⟨b, 0, none⟩), .func (.func 51) #[.pointer (some ⟨b, 0, none⟩)] #[]] w fun e w' => e = .returned (.tuple #[]) ∧ Ready w' b ∧ Kept b w w' := by
  have hnot := not_run
  have hc0 := t.c0
  go_enter Try.func50, Try.ntmps50
  go_wp2_with fail
  refine (boolLoad ⟨b, 0, none⟩ 0 _ hc0).mono ?_
  rintro e w' ⟨rfl, rfl⟩
  go_wp2_with fail
  refine (slow_any b _ t).mono ?_
  rintro e w' ⟨rfl, tr, kr⟩
  go_wp2
  go_end0
  exact ⟨rfl, tr, kr⟩

/-- '(*sync.Once).Do', done already. -/
theorem do_done (b : Nat) (fv : Value) (w : World) (t : Ready w b) :
    Calls Try.prog 50 #[.pointer (some ⟨b, 0, none⟩), fv] w fun e w' => e = .returned (.tuple #[]) ∧ w = w' := by
  have hnot := not_run
  have hc0 := t.c0
  go_enter Try.func50, Try.ntmps50
  go_wp2_with fail
  refine (boolLoad ⟨b, 0, none⟩ 1 _ hc0).mono ?_
  rintro e w' ⟨rfl, rfl⟩
  go_wp2
  go_end0
  exact ⟨rfl, rfl⟩
end Go.Proofs.Ytdkdkkledlolcaa.K
