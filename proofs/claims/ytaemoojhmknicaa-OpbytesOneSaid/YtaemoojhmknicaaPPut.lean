/-
  Layer 10: Put and Print (opbytes' and the document's): the bytes of an operation that may be. Condition: a text of at most 100000 bytes.
-/
import Derived.Test.YtaemoojhmknicaaPMay
import Derived.Deep.RegionHeld3
import Derived.Deep.DeepCutAuto
import Derived.Laws.BytesArg
set_option linter.unusedVariables false
namespace Go.Proofs.Ytaemoojhmknicaa
open Go.RowKit Cod

/-- An operation in a block of its own. -/
structure OpBox (w : World) (b : Nat) (o : OpN) : Prop where
  lt : b < w.heap.size
  cell : ∀ j v, (opC o)[j]? = some v → w.cell? ⟨b, j, none⟩ = some v
theorem OpBox.below {w w' : World} {b : Nat} {o : OpN} (h : OpBox w b o) (k : Below w.heap.size w w') : OpBox w' b o :=
  ⟨Nat.lt_of_lt_of_le h.lt k.size, fun j v hj => (World.cell?_of_block (k.block b h.lt)).trans (h.cell j v hj)⟩
theorem OpBox.new (w : World) (o : OpN) (T : TypeId) : OpBox (w.alloc (.cells (opC o) T)) w.heap.size o :=
  ⟨by simp, fun j v hj => by simpa using hj⟩

/-- The cells of the numbers, as they are wanted at once. -/
def Nine (b : Nat) (o : OpN) (w : World) : Prop :=
  w.cell? ⟨b, 1, none⟩ = some (.int .i64 o.client) ∧ w.cell? ⟨b, 2, none⟩ = some (.int .i64 o.req) ∧ w.cell? ⟨b, 3, none⟩ = some (.int .i64 o.id) ∧ w.cell? ⟨b, 4, none⟩ = some (.int .i64 o.gen) ∧
    w.cell? ⟨b, 5, none⟩ = some (.int .i64 o.occ) ∧ w.cell? ⟨b, 6, none⟩ = some (.int .i64 o.due) ∧ w.cell? ⟨b, 7, none⟩ = some (.int .i64 o.stamp) ∧ w.cell? ⟨b, 8, none⟩ = some (.int .i64 o.epoch) ∧ w.cell? ⟨b, 9, none⟩ = some (.string o.cron)
theorem OpBox.nine {w : World} {b : Nat} {o : OpN} (h : OpBox w b o) : Nine b o w :=
  ⟨h.cell 1 _ rfl, h.cell 2 _ rfl, h.cell 3 _ rfl, h.cell 4 _ rfl, h.cell 5 _ rfl, h.cell 6 _ rfl, h.cell 7 _ rfl, h.cell 8 _ rfl, h.cell 9 _ rfl⟩

theorem kindB_eq (k : Int) : strOfNums [k] = kindB k := rfl
theorem row_new (w : World) (o : OpN) (T : TypeId) : Row (w.alloc (.cells #[.int .i64 o.client, .int .i64 o.req, .int .i64 o.id, .int .i64 o.gen, .int .i64 o.occ, .int .i64 o.due, .int .i64 o.stamp, .int .i64 o.epoch] T)) w.heap.size (numsOf o) := by
  refine ⟨by simp, fun j x hj => ?_⟩
  match j, hj with
  | 0, hj => simp [numsOf] at hj; subst hj; simp
  | 1, hj => simp [numsOf] at hj; subst hj; simp
  | 2, hj => simp [numsOf] at hj; subst hj; simp
  | 3, hj => simp [numsOf] at hj; subst hj; simp
  | 4, hj => simp [numsOf] at hj; subst hj; simp
  | 5, hj => simp [numsOf] at hj; subst hj; simp
  | 6, hj => simp [numsOf] at hj; subst hj; simp
  | 7, hj => simp [numsOf] at hj; subst hj; simp
  | j + 8, hj => simp [numsOf] at hj

theorem Row.drew {w : World} {g : Nat} {l : List Int} (h : Row w g l) : Row w.drew g l := ⟨h.lt, h.cell⟩
theorem row_drew (w : World) (o : OpN) (T : TypeId) : Row (w.alloc (.cells #[.int .i64 o.client, .int .i64 o.req, .int .i64 o.id, .int .i64 o.gen, .int .i64 o.occ, .int .i64 o.due, .int .i64 o.stamp, .int .i64 o.epoch] T)).drew w.heap.size (numsOf o) := (row_new w o T).drew

/-- The kind's byte, as a text. -/
theorem kind_run (o : OpN) (w : World) (h0 : 0 ≤ o.kind) (h3 : o.kind ≤ 3) : (convert 47 9 (.slice (some ⟨w.heap.size + 1, 0, none⟩) 1 1)).run Try.prog ((w.alloc (Obj.cells (opC o) 23)).alloc (Obj.cells #[.int .u8 o.kind] 5)) = .ok (.string (kindB o.kind)) ((w.alloc (Obj.cells (opC o) 23)).alloc (Obj.cells #[.int .u8 o.kind] 5)) := by
  have h := run_convert_bytes_arg (P := Try.prog) ((w.alloc (Obj.cells (opC o) 23)).alloc (Obj.cells #[.int .u8 o.kind] 5)) 47 5 Try.underlying47 Try.underlying5 (w.heap.size + 1) 0 1 1 [o.kind] rfl (fun i hi => by
    obtain rfl : i = 0 := by omega
    simp) 9 Try.underlying9
  rw [kindB_eq] at h
  exact h

set_option maxHeartbeats 2000000 in
set_option maxRecDepth 100000 in
theorem put_any (o : OpN) (w : World) (ho : okOp o = true) (hi : OpI o) :
    Calls Try.prog 12 #[opV o] w fun e w' => e = .returned (.string (opB o)) ∧ Below w.heap.size w w' := by
  obtain ⟨h0, h3, hc⟩ := (okOp_iff o).1 ho
  have hwk : IntKind.u8.wrap o.kind = o.kind := by rw [IntKind.wrap_u8]; omega
  have hk := kind_run o w h0 h3
  go_enter Try.func12, Try.ntmps12
  go_upto_region 2 with fail
  clear hk hwk
  have hbox := Lib.hid ((OpBox.new w o 23).below ((Below.refl _ _).alloc (Nat.le_refl _) (Obj.cells #[.int .u8 o.kind] 5)))
  have b2 : Hid (Below w.heap.size w ((w.alloc (Obj.cells (opC o) 23)).alloc (Obj.cells #[.int .u8 o.kind] 5))) := ((Below.refl _ _).alloc (Nat.le_refl _) _).alloc (by simp) _
  generalize (w.alloc (Obj.cells (opC o) 23)).alloc (Obj.cells #[.int .u8 o.kind] 5) = w2 at *
  have cN : Hid (∀ X g, Row X g (numsOf o) → Calls Try.prog 22 #[.slice (some ⟨g, 0, none⟩) 8 8] X fun e w' => e = .returned (.string (numsB (numsOf o))) ∧ Below X.heap.size X w') := fun X g h => numbers_any g (numsOf o) X h hi.nums (show 8 ≤ 1000 by omega)
  have cS : Hid (∀ X, Calls Try.prog 23 #[.string o.cron] X fun e w' => e = .returned (.string (strB o.cron)) ∧ Below X.heap.size X w') := fun X => str_any o.cron X (by omega)
  have hres : Hid (opB o = kindB o.kind ++ numsB (numsOf o) ++ strB o.cron) := by show _ = _; rw [opB, app_assoc]
  have hz1 : (kindB o.kind).size = 1 := rfl
  have hz2 := numsB_size hi.nums
  have hz3 : (strB o.cron).size ≤ 1000 := by have := enc_size (n := o.cron.size) (by omega); rw [strB, size_append']; omega
  have hz4 : (numsB (numsOf o)).size ≤ 80 := hz2
  have hz5 : ¬ 9223372036854775807 < (kindB o.kind).size + (numsB (numsOf o)).size := by omega
  have hz6 : ¬ 9223372036854775807 < (kindB o.kind).size + (numsB (numsOf o)).size + (strB o.cron).size := by omega
  clear hz1 hz2 hz3 hz4 ho hc h0 h3
  generalize kindB o.kind = S1 at *
  generalize numsB (numsOf o) = S2 at *
  generalize strB o.cron = S3 at *
  have hS : Hid (∀ W, Below w2.heap.size w2 W → Nine w.heap.size o W) := fun W k => (hbox.out.below k).nine
  have hcA := hS.out _ (Below.refl _ _)
  have hcB := hS.out w2.drew (Below.refl _ _).drew
  have h00 : Hid (Below w2.heap.size w2 w2) := Below.refl _ _
  have hb : Hid (Below w2.heap.size w2 w2.drew) := (Below.refl _ _).drew
  obtain ⟨q1, q2, q3, q4, q5, q6, q7, q8, q9⟩ := hS.out w2 (Below.refl _ _)
  go_region_held3 (fun w' => w'.cell? ⟨w.heap.size, 1, none⟩ = some (.int .i64 o.client) ∧ w'.cell? ⟨w.heap.size, 2, none⟩ = some (.int .i64 o.req) ∧ w'.cell? ⟨w.heap.size, 3, none⟩ = some (.int .i64 o.id) ∧ w'.cell? ⟨w.heap.size, 4, none⟩ = some (.int .i64 o.gen) ∧
    w'.cell? ⟨w.heap.size, 5, none⟩ = some (.int .i64 o.occ) ∧ w'.cell? ⟨w.heap.size, 6, none⟩ = some (.int .i64 o.due) ∧ w'.cell? ⟨w.heap.size, 7, none⟩ = some (.int .i64 o.stamp) ∧ w'.cell? ⟨w.heap.size, 8, none⟩ = some (.int .i64 o.epoch) ∧ w'.cell? ⟨w.heap.size, 9, none⟩ = some (.string o.cron))
    (first | (exact hS.out _ (Below.refl _ _)) | (exact hS.out _ hb.out) | (exact hS.out _ (hb.out.alloc hb.out.size _)) | (exact hS.out _ (h00.out.alloc h00.out.size _).drew) | go_keep)
    (first
      | (go_at_call 23; (with_reducible refine (cS.out _).mono ?_); rintro e w6 ⟨rfl, k6⟩
         (try (first | (have hrow := Lib.hid ((row_new _ o _).below k6)) | (have hrow := Lib.hid ((row_drew _ o _).below k6))))
         (first | (replace hb := Lib.hid (hb.out.trans (k6.mono hb.out.size))) | (replace hb := Lib.hid ((hb.out.alloc hb.out.size _).trans (k6.mono (hb.out.alloc hb.out.size _).size))) | (replace hb := Lib.hid ((h00.out.alloc h00.out.size _).drew.trans (k6.mono (h00.out.alloc h00.out.size _).drew.size))))
         clear k6)
      | (go_at_call 22; (first | (with_reducible refine (cN.out _ _ hrow.out).mono ?_) | (refine (cN.out _ _ (row_new _ o _)).mono ?_) | (refine (cN.out _ _ (row_drew _ o _)).mono ?_)); rintro e w6 ⟨rfl, k6⟩
         (first | (replace hb := Lib.hid (hb.out.trans (k6.mono hb.out.size))) | (replace hb := Lib.hid ((hb.out.alloc hb.out.size _).trans (k6.mono (hb.out.alloc hb.out.size _).size))) | (replace hb := Lib.hid ((h00.out.alloc h00.out.size _).drew.trans (k6.mono (h00.out.alloc h00.out.size _).drew.size))))
         clear k6))
  all_goals
    go_wp2_with fail
    go_ret
    exact ⟨by rw [hres.out]; rfl, b2.out.trans (hb.out.mono b2.out.size)⟩
end Go.Proofs.Ytaemoojhmknicaa
