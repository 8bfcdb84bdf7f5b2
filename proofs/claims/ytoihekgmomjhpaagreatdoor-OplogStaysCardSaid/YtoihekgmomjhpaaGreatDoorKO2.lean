/-
  Texts laid into one (a claim has 60 files at most): OFire, OMath.
-/
import Derived.Test.YtoihekgmomjhpaaGreatDoorKO1
import Derived.Test.YtoihekgmomjhpaaGreatDoorKS1
/-
  Layer 9: keepFire: what fired by an operation that did something.
-/
set_option linter.unusedVariables false
set_option linter.unusedSimpArgs false
namespace Go.Proofs.YtoihekgmomjhpaaGreatDoor
open Go.RowKit Go.MapKept Crn Nxt Ste
set_option maxRecDepth 100000
abbrev fireC (f : Int × Int × Int × Int × Int × Int) : Array Value := #[.int .i64 f.1, .int .i64 f.2.1, .int .i64 f.2.2.1, .int .i64 f.2.2.2.1, .int .i64 f.2.2.2.2.1, .int .i64 f.2.2.2.2.2]
abbrev FireR := Int × Int × Int × Int × Int × Int
def fireOf (o : OpN) (r : Rp) (n : Nat) (client : Int) : List FireR := if o.kind = 3 ∧ r.err = 0 then [((n : Int), client, o.id, o.gen, o.occ, o.stamp)] else []
theorem infoFire : (Tryz.prog.info? 71).map (fun i => (i.zero, i.size, i.bytes)) = some (some (.agg #[.int .i64 0, .int .i64 0, .int .i64 0, .int .i64 0, .int .i64 0, .int .i64 0]), 6, 48) := by kernel_rfl
theorem fireC_one (x : FireR) : ∀ u ∈ (fireC x).toList, u.oneCell' = true := by
  intro u hu
  simp only [List.mem_cons, List.not_mem_nil, or_false] at hu
  rcases hu with rfl | rfl | rfl | rfl | rfl | rfl <;> rfl
abbrev FRow := SRow fireC 71 6
abbrev oF_0 : Oper := { dst := some 16, op := Go.Op.move (Go.Operand.tmp 0), type := 25, pos := "oplog.go:242", after := #[], guard := none }
abbrev oF_1 : Oper := { dst := some 17, op := Go.Op.move (Go.Operand.tmp 0), type := 25, pos := "oplog.go:242", after := #[], guard := none }
abbrev oF_2 : Oper := { dst := some 18, op := Go.Op.nilCheck (Go.Operand.tmp 17), type := 0, pos := "oplog.go:242", after := #[{ on := 1, ground := Go.Ground.data }], guard := none }
abbrev oF_3 : Oper := { dst := some 19, op := Go.Op.fieldAddr 81 (Go.Operand.tmp 18) 6, type := 0, pos := "oplog.go:242", after := #[{ on := 2, ground := Go.Ground.data }], guard := none }
abbrev oF_4 : Oper := { dst := some 20, op := Go.Op.load 66 (Go.Operand.tmp 19), type := 66, pos := "oplog.go:242", after := #[{ on := 3, ground := Go.Ground.data }], guard := none }
abbrev oF_5 : Oper := { dst := some 21, op := Go.Op.move (Go.Operand.tmp 0), type := 25, pos := "oplog.go:242", after := #[], guard := none }
abbrev oF_6 : Oper := { dst := some 22, op := Go.Op.nilCheck (Go.Operand.tmp 21), type := 0, pos := "oplog.go:242", after := #[{ on := 5, ground := Go.Ground.data }], guard := none }
abbrev oF_7 : Oper := { dst := some 23, op := Go.Op.fieldAddr 81 (Go.Operand.tmp 22) 2, type := 0, pos := "oplog.go:242", after := #[{ on := 6, ground := Go.Ground.data }], guard := none }
abbrev oF_8 : Oper := { dst := some 24, op := Go.Op.load 22 (Go.Operand.tmp 23), type := 22, pos := "oplog.go:242", after := #[{ on := 7, ground := Go.Ground.data }], guard := none }
abbrev oF_9 : Oper := { dst := some 25, op := Go.Op.call { callee := Go.Callee.builtin Go.Builtin.len, args := #[Go.Operand.tmp 24], argTypes := #[22] }, type := 3, pos := "oplog.go:242", after := #[{ on := 8, ground := Go.Ground.data }], guard := none }
abbrev oF_10 : Oper := { dst := some 26, op := Go.Op.move (Go.Operand.tmp 3), type := 3, pos := "oplog.go:242", after := #[], guard := none }
abbrev oF_11 : Oper := { dst := some 27, op := Go.Op.fieldAddr 31 (Go.Operand.tmp 5) 3, type := 0, pos := "oplog.go:242", after := #[], guard := none }
abbrev oF_12 : Oper := { dst := some 28, op := Go.Op.load 3 (Go.Operand.tmp 27), type := 3, pos := "oplog.go:242", after := #[{ on := 11, ground := Go.Ground.data }], guard := none }
abbrev oF_13 : Oper := { dst := some 29, op := Go.Op.fieldAddr 31 (Go.Operand.tmp 5) 4, type := 0, pos := "oplog.go:242", after := #[], guard := none }
abbrev oF_14 : Oper := { dst := some 30, op := Go.Op.load 3 (Go.Operand.tmp 29), type := 3, pos := "oplog.go:242", after := #[{ on := 13, ground := Go.Ground.data }], guard := none }
abbrev oF_15 : Oper := { dst := some 31, op := Go.Op.fieldAddr 31 (Go.Operand.tmp 5) 5, type := 0, pos := "oplog.go:242", after := #[], guard := none }
abbrev oF_16 : Oper := { dst := some 32, op := Go.Op.load 3 (Go.Operand.tmp 31), type := 3, pos := "oplog.go:242", after := #[{ on := 15, ground := Go.Ground.data }], guard := none }
abbrev oF_17 : Oper := { dst := some 33, op := Go.Op.fieldAddr 31 (Go.Operand.tmp 5) 7, type := 0, pos := "oplog.go:242", after := #[], guard := none }
abbrev oF_18 : Oper := { dst := some 34, op := Go.Op.load 3 (Go.Operand.tmp 33), type := 3, pos := "oplog.go:242", after := #[{ on := 17, ground := Go.Ground.data }], guard := none }
abbrev oF_19 : Oper := { dst := some 35, op := Go.Op.build 71 #[(0, Go.Operand.tmp 25), (1, Go.Operand.tmp 26), (2, Go.Operand.tmp 28), (3, Go.Operand.tmp 30), (4, Go.Operand.tmp 32), (5, Go.Operand.tmp 34)], type := 71, pos := "oplog.go:242", after := #[{ on := 9, ground := Go.Ground.data }, { on := 10, ground := Go.Ground.data }, { on := 12, ground := Go.Ground.data }, { on := 14, ground := Go.Ground.data }, { on := 16, ground := Go.Ground.data }, { on := 18, ground := Go.Ground.data }], guard := none }
abbrev oF_20 : Oper := { dst := some 36, op := Go.Op.buildSlice 66 1 #[(0, Go.Operand.tmp 35)], type := 66, pos := "oplog.go:242", after := #[{ on := 19, ground := Go.Ground.data }], guard := none }
abbrev oF_21 : Oper := { dst := some 37, op := Go.Op.call { callee := Go.Callee.builtin Go.Builtin.append, args := #[Go.Operand.tmp 20, Go.Operand.tmp 36], argTypes := #[66, 66] }, type := 66, pos := "oplog.go:242", after := #[{ on := 4, ground := Go.Ground.data }, { on := 20, ground := Go.Ground.data }], guard := none }
abbrev oF_22 : Oper := { dst := some 38, op := Go.Op.nilCheck (Go.Operand.tmp 16), type := 0, pos := "oplog.go:242", after := #[{ on := 0, ground := Go.Ground.data }, { on := 0, ground := Go.Ground.phase }, { on := 1, ground := Go.Ground.phase }, { on := 2, ground := Go.Ground.phase }, { on := 3, ground := Go.Ground.phase }, { on := 4, ground := Go.Ground.phase }, { on := 5, ground := Go.Ground.phase }, { on := 6, ground := Go.Ground.phase }, { on := 7, ground := Go.Ground.phase }, { on := 8, ground := Go.Ground.phase }, { on := 9, ground := Go.Ground.phase }, { on := 10, ground := Go.Ground.phase }, { on := 11, ground := Go.Ground.phase }, { on := 12, ground := Go.Ground.phase }, { on := 13, ground := Go.Ground.phase }, { on := 14, ground := Go.Ground.phase }, { on := 15, ground := Go.Ground.phase }, { on := 16, ground := Go.Ground.phase }, { on := 17, ground := Go.Ground.phase }, { on := 18, ground := Go.Ground.phase }, { on := 19, ground := Go.Ground.phase }, { on := 20, ground := Go.Ground.phase }, { on := 21, ground := Go.Ground.phase }], guard := none }
abbrev oF_23 : Oper := { dst := some 39, op := Go.Op.fieldAddr 81 (Go.Operand.tmp 38) 6, type := 0, pos := "oplog.go:242", after := #[{ on := 22, ground := Go.Ground.data }, { on := 0, ground := Go.Ground.phase }, { on := 1, ground := Go.Ground.phase }, { on := 2, ground := Go.Ground.phase }, { on := 3, ground := Go.Ground.phase }, { on := 4, ground := Go.Ground.phase }, { on := 5, ground := Go.Ground.phase }, { on := 6, ground := Go.Ground.phase }, { on := 7, ground := Go.Ground.phase }, { on := 8, ground := Go.Ground.phase }, { on := 9, ground := Go.Ground.phase }, { on := 10, ground := Go.Ground.phase }, { on := 11, ground := Go.Ground.phase }, { on := 12, ground := Go.Ground.phase }, { on := 13, ground := Go.Ground.phase }, { on := 14, ground := Go.Ground.phase }, { on := 15, ground := Go.Ground.phase }, { on := 16, ground := Go.Ground.phase }, { on := 17, ground := Go.Ground.phase }, { on := 18, ground := Go.Ground.phase }, { on := 19, ground := Go.Ground.phase }, { on := 20, ground := Go.Ground.phase }, { on := 21, ground := Go.Ground.phase }], guard := none }
abbrev oF_24 : Oper := { dst := none, op := Go.Op.store 66 (Go.Operand.tmp 39) (Go.Operand.tmp 37), type := 0, pos := "oplog.go:242", after := #[{ on := 23, ground := Go.Ground.data }, { on := 21, ground := Go.Ground.data }, { on := 21, ground := Go.Ground.chain }, { on := 0, ground := Go.Ground.phase }, { on := 1, ground := Go.Ground.phase }, { on := 2, ground := Go.Ground.phase }, { on := 3, ground := Go.Ground.phase }, { on := 4, ground := Go.Ground.phase }, { on := 5, ground := Go.Ground.phase }, { on := 6, ground := Go.Ground.phase }, { on := 7, ground := Go.Ground.phase }, { on := 8, ground := Go.Ground.phase }, { on := 9, ground := Go.Ground.phase }, { on := 10, ground := Go.Ground.phase }, { on := 11, ground := Go.Ground.phase }, { on := 12, ground := Go.Ground.phase }, { on := 13, ground := Go.Ground.phase }, { on := 14, ground := Go.Ground.phase }, { on := 15, ground := Go.Ground.phase }, { on := 16, ground := Go.Ground.phase }, { on := 17, ground := Go.Ground.phase }, { on := 18, ground := Go.Ground.phase }, { on := 19, ground := Go.Ground.phase }, { on := 20, ground := Go.Ground.phase }, { on := 21, ground := Go.Ground.phase }], guard := none }
set_option maxHeartbeats 4000000 in
theorem keepFire_any (lb n oc base : Nat) (op fp : Option Addr) (fc : Nat) (fires : List FireR) (C : Array Value) (o : OpN) (r : Rp) (client : Int) (w : World) (hB : w.heap[lb]? = some (.cells C 81)) (hC2 : C[2]? = some (.slice op n oc)) (hC6 : C[6]? = some (.slice fp fires.length fc))
    (hr : FRow base w fp fc fires) (hn : n ≤ 100000) (hl : fires.length ≤ 100000) (hbase : base ≤ w.heap.size) :
    Calls Tryz.prog 34 #[.pointer (some ⟨lb, 0, none⟩), opV o, rpV r, .int .i64 client] w fun e w' => e = .returned (.tuple #[]) ∧ ∃ fp' fc', w'.heap[lb]? = some (.cells (C.setIfInBounds 6 (.slice fp' (fires ++ fireOf o r n client).length fc')) 81) ∧
      FRow base w' fp' fc' (fires ++ fireOf o r n client) ∧ Kl (lb :: rowOf fp) w w' ∧ ∀ g, g ∈ rowOf fp' → g ∈ rowOf fp ∨ w.heap.size ≤ g := by
  have hlb := lt_in hB
  have hrl := hr.lt
  have hfar : lb ∉ rowOf fp := fun e => by
    obtain ⟨cur, hc⟩ := hr.type lb e
    exact type_no hB hc (by decide) rfl
  have hsame : C.setIfInBounds 6 (.slice fp fires.length fc) = C := by
    apply Array.ext_getElem?
    intro i
    rw [Array.getElem?_setIfInBounds]
    split
    · rename_i h; subst h; split
      · exact hC6.symm
      · rename_i h2; rw [Array.getElem?_eq_none (by omega)]
    · rfl
  have hb : Hid (Below w.heap.size w ((w.alloc (.cells (opC o) 31)).alloc (.cells #[.int .i64 r.err, .int .i64 r.gen, .int .i64 r.due] 34))) := ((Below.refl _ _).alloc (Nat.le_refl _) _).alloc (by simp) _
  have hN : Hid (¬ (o.kind = 3 ∧ r.err = 0) → ∀ W, Below w.heap.size w W → ∃ fp' fc', W.heap[lb]? = some (.cells (C.setIfInBounds 6 (.slice fp' (fires ++ fireOf o r n client).length fc')) 81) ∧ FRow base W fp' fc' (fires ++ fireOf o r n client) ∧ Kl (lb :: rowOf fp) w W ∧ ∀ g, g ∈ rowOf fp' → g ∈ rowOf fp ∨ w.heap.size ≤ g) := fun e W k => by
    have e1 : fireOf o r n client = [] := by unfold fireOf; rw [if_neg e]
    rw [e1, List.append_nil]
    exact ⟨fp, fc, by rw [hsame]; exact (k.block lb hlb).trans hB, hr.kept (fun g hg => k.block g (hrl g hg).2), Kl.ofBelow k, fun g hg => .inl hg⟩
  obtain ⟨okind, oclient, oreq, oid, ogen, oocc, odue, ostamp, oepoch, ocron⟩ := o
  obtain ⟨rerr, rgen, rdue⟩ := r
  simp only at *
  by_cases hk : okind = 3
  · by_cases he : rerr = 0
    · subst hk; subst he
      have e1 : Hid (fireOf ⟨3, oclient, oreq, oid, ogen, oocc, odue, ostamp, oepoch, ocron⟩ ⟨0, rgen, rdue⟩ n client = [((n : Int), client, oid, ogen, oocc, ostamp)]) := rfl
      clear hN
      go_enter Tryz.func34, Tryz.ntmps34
      go_upto_region 2 with fail
      have ho1 : Hid (((w.alloc (.cells #[.int .i64 3, .int .i64 oclient, .int .i64 oreq, .int .i64 oid, .int .i64 ogen, .int .i64 oocc, .int .i64 odue, .int .i64 ostamp, .int .i64 oepoch, .string ocron] 31)).alloc (.cells #[.int .i64 0, .int .i64 rgen, .int .i64 rdue] 34)).heap[w.heap.size]? = some (.cells #[.int .i64 3, .int .i64 oclient, .int .i64 oreq, .int .i64 oid, .int .i64 ogen, .int .i64 oocc, .int .i64 odue, .int .i64 ostamp, .int .i64 oepoch, .string ocron] 31)) :=
        (Go.heap_alloc_old _ _ (by simp)).trans (Go.heap_alloc_new w _)
      replace hb : Hid (Below w.heap.size w ((w.alloc (.cells #[.int .i64 3, .int .i64 oclient, .int .i64 oreq, .int .i64 oid, .int .i64 ogen, .int .i64 oocc, .int .i64 odue, .int .i64 ostamp, .int .i64 oepoch, .string ocron] 31)).alloc (.cells #[.int .i64 0, .int .i64 rgen, .int .i64 rdue] 34))) := hb.out
      generalize (w.alloc (.cells #[.int .i64 3, .int .i64 oclient, .int .i64 oreq, .int .i64 oid, .int .i64 ogen, .int .i64 oocc, .int .i64 odue, .int .i64 ostamp, .int .i64 oepoch, .string ocron] 31)).alloc (.cells #[.int .i64 0, .int .i64 rgen, .int .i64 rdue] 34) = w2 at *
      have hlb2 : w2.heap[lb]? = some (.cells C 81) := (hb.out.block lb hlb).trans hB
      have kv : Below w2.heap.size w2 (w2.alloc (.cells (fireC ((n : Int), client, oid, ogen, oocc, ostamp)) 71)) := (Below.refl _ _).alloc (Nat.le_refl _) _
      have hrv : FRow base (w2.alloc (.cells (fireC ((n : Int), client, oid, ogen, oocc, ostamp)) 71)).drew fp fc fires := hr.kept (fun g hg => (kv.block g (Nat.lt_of_lt_of_le (hrl g hg).2 hb.out.size)).trans (hb.out.block g (hrl g hg).2))
      obtain ⟨fp', fc', w8, hrun, g2, g3, g4, g5, g6⟩ := push_run (ST := 66) Tryz.underlying66 infoFire (by rfl) (by omega) (by omega) (fun _ => rfl) fireC_one hrv hl (Nat.le_trans hbase (Nat.le_trans hb.out.size kv.size)) ((n : Int), client, oid, ogen, oocc, ostamp) (vb := w2.heap.size) (Go.heap_alloc_new w2 _)
      have c2 : w2.cell? ⟨lb, 2, none⟩ = some (.slice op n oc) := (cell_in hlb2 2).trans hC2
      have c6 : w2.cell? ⟨lb, 6, none⟩ = some (.slice fp fires.length fc) := (cell_in hlb2 6).trans hC6
      have p3 : w2.cell? ⟨w.heap.size, 3, none⟩ = some (.int .i64 oid) := cell_in ho1.out 3
      have p4 : w2.cell? ⟨w.heap.size, 4, none⟩ = some (.int .i64 ogen) := cell_in ho1.out 4
      have p5 : w2.cell? ⟨w.heap.size, 5, none⟩ = some (.int .i64 oocc) := cell_in ho1.out 5
      have p7 : w2.cell? ⟨w.heap.size, 7, none⟩ = some (.int .i64 ostamp) := cell_in ho1.out 7
      have hl2 : lb < w2.heap.size := lt_in hlb2
      have d6 : (w2.alloc (.cells (fireC ((n : Int), client, oid, ogen, oocc, ostamp)) 71)).cell? ⟨lb, 6, none⟩ = some (.slice fp fires.length fc) := (World.cell?_of_block (w := w2) (kv.block lb hl2)).trans c6
      have h8 : w8.heap[lb]? = some (.cells C 81) := (g3 lb (Nat.lt_of_lt_of_le hl2 kv.size) hfar).trans ((kv.block lb hl2).trans hlb2)
      have c8 : w8.cell? ⟨lb, 6, none⟩ = some (.slice fp fires.length fc) := (cell_in h8 6).trans hC6
      have f8 : w8.frozen? ⟨lb, 6, none⟩ = false := free_in h8 6
      have hend : Hid ((w8.setCell ⟨lb, 6, none⟩ (.slice fp' (fires.length + 1) fc')).heap[lb]? = some (.cells (C.setIfInBounds 6 (.slice fp' (fires ++ [((n : Int), client, oid, ogen, oocc, ostamp)]).length fc')) 81)) := by
        rw [List.length_append]
        exact heap_setCell_same w8 lb 6 C _ _ h8
      have hnew : ∀ g, g ∈ rowOf fp' → g ∈ rowOf fp ∨ w.heap.size ≤ g := fun g hg => by
        rcases g6 g hg with e | e
        · exact .inl e
        · exact .inr (by rw [e]; exact Nat.le_trans hb.out.size kv.size)
      have hrow : Hid (FRow base (w8.setCell ⟨lb, 6, none⟩ (.slice fp' (fires.length + 1) fc')) fp' fc' (fires ++ [((n : Int), client, oid, ogen, oocc, ostamp)])) := g2.kept (fun g hg => heap_setCell_other _ _ _ _ (fun e => by
        have e2 : g = lb := e
        subst e2
        obtain ⟨cur, hc⟩ := g2.type g hg
        exact type_no h8 hc (by decide) rfl))
      have hkl : Hid (Kl (lb :: rowOf fp) w (w8.setCell ⟨lb, 6, none⟩ (.slice fp' (fires.length + 1) fc'))) := by
        refine Kl.setCell ?_ (by simp) 6 _
        exact ⟨g5.1.trans (kv.os.trans hb.out.os), g5.2.1.trans (kv.tape.trans hb.out.tape), g5.2.2.trans (kv.output.trans hb.out.output), Nat.le_trans (Nat.le_trans hb.out.size kv.size) g4, fun i hi h => (g3 i (Nat.lt_of_lt_of_le hi (Nat.le_trans hb.out.size kv.size)) (fun e => h (by simp [e]))).trans ((kv.block i (Nat.lt_of_lt_of_le hi hb.out.size)).trans (hb.out.block i hi))⟩
      have sF : ∀ W : World, W.heap[lb]? = w2.heap[lb]? → W.heap[w.heap.size]? = w2.heap[w.heap.size]? → (W.cell? ⟨lb, 2, none⟩ = some (.slice op n oc) ∧ W.cell? ⟨w.heap.size, 3, none⟩ = some (.int .i64 oid) ∧ W.cell? ⟨w.heap.size, 4, none⟩ = some (.int .i64 ogen) ∧ W.cell? ⟨w.heap.size, 5, none⟩ = some (.int .i64 oocc) ∧ W.cell? ⟨w.heap.size, 7, none⟩ = some (.int .i64 ostamp)) := fun W e1 e2 =>
        ⟨(World.cell?_of_block (w := w2) e1).trans c2, (World.cell?_of_block (w := w2) e2).trans p3, (World.cell?_of_block (w := w2) e2).trans p4, (World.cell?_of_block (w := w2) e2).trans p5, (World.cell?_of_block (w := w2) e2).trans p7⟩
      have hq2 : w.heap.size < w2.heap.size := lt_in ho1.out
      have sB := sF (w2.alloc (.cells (fireC ((n : Int), client, oid, ogen, oocc, ostamp)) 71)).drew (kv.block lb hl2) (kv.block _ hq2)
      have sA := sF w8 ((g3 lb (Nat.lt_of_lt_of_le hl2 kv.size) hfar).trans (kv.block lb hl2)) ((g3 _ (Nat.lt_of_lt_of_le hq2 kv.size) (fun e => by have := (hrl _ e).2; omega)).trans (kv.block _ hq2))
      have sS : (w8.setCell ⟨lb, 6, none⟩ (.slice fp' (fires.length + 1) fc')).cell? ⟨lb, 2, none⟩ = some (.slice op n oc) ∧ (w8.setCell ⟨lb, 6, none⟩ (.slice fp' (fires.length + 1) fc')).cell? ⟨w.heap.size, 3, none⟩ = some (.int .i64 oid) ∧ (w8.setCell ⟨lb, 6, none⟩ (.slice fp' (fires.length + 1) fc')).cell? ⟨w.heap.size, 4, none⟩ = some (.int .i64 ogen) ∧ (w8.setCell ⟨lb, 6, none⟩ (.slice fp' (fires.length + 1) fc')).cell? ⟨w.heap.size, 5, none⟩ = some (.int .i64 oocc) ∧ (w8.setCell ⟨lb, 6, none⟩ (.slice fp' (fires.length + 1) fc')).cell? ⟨w.heap.size, 7, none⟩ = some (.int .i64 ostamp) := by
        have hne : ∀ j k, j ≠ k → (⟨lb, j, none⟩ : Addr) ≠ ⟨lb, k, none⟩ := fun j k h e => h (congrArg Addr.off e)
        have hne2 : ∀ j k, (⟨lb, j, none⟩ : Addr) ≠ ⟨w.heap.size, k, none⟩ := fun j k e => by have e2 : lb = w.heap.size := congrArg Addr.block e; omega
        refine ⟨(World.cell?_setCell_other _ _ _ _ (hne _ _ (by omega))).trans sA.1, (World.cell?_setCell_other _ _ _ _ (hne2 _ _)).trans sA.2.1, (World.cell?_setCell_other _ _ _ _ (hne2 _ _)).trans sA.2.2.1, (World.cell?_setCell_other _ _ _ _ (hne2 _ _)).trans sA.2.2.2.1, (World.cell?_setCell_other _ _ _ _ (hne2 _ _)).trans sA.2.2.2.2⟩
      clear sF hq2
      replace hnew := Lib.hid hnew
      replace hrun := Lib.hid hrun
      clear g2 g3 g4 g5 g6 hrv kv hlb2 hr hrl hB hC2 hC6 hsame hfar h8 ho1 hl2 hlb
      refine wp_region_noPanic ?_
      refine wp_region_held_drew (S := fun w' => w'.cell? ⟨lb, 2, none⟩ = some (.slice op n oc) ∧ w'.cell? ⟨w.heap.size, 3, none⟩ = some (.int .i64 oid) ∧ w'.cell? ⟨w.heap.size, 4, none⟩ = some (.int .i64 ogen) ∧ w'.cell? ⟨w.heap.size, 5, none⟩ = some (.int .i64 oocc) ∧ w'.cell? ⟨w.heap.size, 7, none⟩ = some (.int .i64 ostamp)) (by kernel_rfl) ?hS0 (fun hHeld => ?_)
      case hS0 => ((try dsimp only); exact ⟨c2, p3, p4, p5, p7⟩)
      refine wpAnyH_take (i := 0) (oi := oF_0) (v := ?v1) rfl (by kernel_rfl) (by kernel_rfl) (by kernel_rfl) (fun _ _ _ h => h) (Or.inl ⟨by rfl, ?y1⟩) (by assumption) ?r1
      case y1 => (intro w hSw; (try dsimp only at hSw); unfold oF_0; go_simp; try with_reducible rfl)
      simp only [oF_0, Act.put, List.setIfInBounds_toArray, List.set_cons_zero, List.set_cons_succ]
      refine wpAnyH_take (i := 1) (oi := oF_1) (v := ?v2) rfl (by kernel_rfl) (by kernel_rfl) (by kernel_rfl) (fun _ _ _ h => h) (Or.inl ⟨by rfl, ?y2⟩) (by assumption) ?r2
      case y2 => (intro w hSw; (try dsimp only at hSw); unfold oF_1; go_simp; try with_reducible rfl)
      simp only [oF_1, Act.put, List.setIfInBounds_toArray, List.set_cons_zero, List.set_cons_succ]
      refine wpAnyH_take (i := 5) (oi := oF_5) (v := ?v3) rfl (by kernel_rfl) (by kernel_rfl) (by kernel_rfl) (fun _ _ _ h => h) (Or.inl ⟨by rfl, ?y3⟩) (by assumption) ?r3
      case y3 => (intro w hSw; (try dsimp only at hSw); unfold oF_5; go_simp; try with_reducible rfl)
      simp only [oF_5, Act.put, List.setIfInBounds_toArray, List.set_cons_zero, List.set_cons_succ]
      refine wpAnyH_take (i := 10) (oi := oF_10) (v := ?v4) rfl (by kernel_rfl) (by kernel_rfl) (by kernel_rfl) (fun _ _ _ h => h) (Or.inl ⟨by rfl, ?y4⟩) (by assumption) ?r4
      case y4 => (intro w hSw; (try dsimp only at hSw); unfold oF_10; go_simp; try with_reducible rfl)
      simp only [oF_10, Act.put, List.setIfInBounds_toArray, List.set_cons_zero, List.set_cons_succ]
      refine wpAnyH_take (i := 11) (oi := oF_11) (v := ?v5) rfl (by kernel_rfl) (by kernel_rfl) (by kernel_rfl) (fun _ _ _ h => h) (Or.inl ⟨by rfl, ?y5⟩) (by assumption) ?r5
      case y5 => (intro w hSw; (try dsimp only at hSw); unfold oF_11; go_simp; try with_reducible rfl)
      simp only [oF_11, Act.put, List.setIfInBounds_toArray, List.set_cons_zero, List.set_cons_succ]
      refine wpAnyH_take (i := 13) (oi := oF_13) (v := ?v6) rfl (by kernel_rfl) (by kernel_rfl) (by kernel_rfl) (fun _ _ _ h => h) (Or.inl ⟨by rfl, ?y6⟩) (by assumption) ?r6
      case y6 => (intro w hSw; (try dsimp only at hSw); unfold oF_13; go_simp; try with_reducible rfl)
      simp only [oF_13, Act.put, List.setIfInBounds_toArray, List.set_cons_zero, List.set_cons_succ]
      refine wpAnyH_take (i := 15) (oi := oF_15) (v := ?v7) rfl (by kernel_rfl) (by kernel_rfl) (by kernel_rfl) (fun _ _ _ h => h) (Or.inl ⟨by rfl, ?y7⟩) (by assumption) ?r7
      case y7 => (intro w hSw; (try dsimp only at hSw); unfold oF_15; go_simp; try with_reducible rfl)
      simp only [oF_15, Act.put, List.setIfInBounds_toArray, List.set_cons_zero, List.set_cons_succ]
      refine wpAnyH_take (i := 17) (oi := oF_17) (v := ?v8) rfl (by kernel_rfl) (by kernel_rfl) (by kernel_rfl) (fun _ _ _ h => h) (Or.inl ⟨by rfl, ?y8⟩) (by assumption) ?r8
      case y8 => (intro w hSw; (try dsimp only at hSw); unfold oF_17; go_simp; try with_reducible rfl)
      simp only [oF_17, Act.put, List.setIfInBounds_toArray, List.set_cons_zero, List.set_cons_succ]
      refine wpAnyH_take (i := 2) (oi := oF_2) (v := ?v9) rfl (by kernel_rfl) (by kernel_rfl) (by kernel_rfl) (fun _ _ _ h => h) (Or.inl ⟨by rfl, ?y9⟩) (by assumption) ?r9
      case y9 => (intro w hSw; (try dsimp only at hSw); unfold oF_2; go_simp; try with_reducible rfl)
      simp only [oF_2, Act.put, List.setIfInBounds_toArray, List.set_cons_zero, List.set_cons_succ]
      refine wpAnyH_take (i := 6) (oi := oF_6) (v := ?v10) rfl (by kernel_rfl) (by kernel_rfl) (by kernel_rfl) (fun _ _ _ h => h) (Or.inl ⟨by rfl, ?y10⟩) (by assumption) ?r10
      case y10 => (intro w hSw; (try dsimp only at hSw); unfold oF_6; go_simp; try with_reducible rfl)
      simp only [oF_6, Act.put, List.setIfInBounds_toArray, List.set_cons_zero, List.set_cons_succ]
      refine wpAnyH_take (i := 12) (oi := oF_12) (v := ?v11) rfl (by kernel_rfl) (by kernel_rfl) (by kernel_rfl) (fun _ _ _ h => h) (Or.inl ⟨by rfl, ?y11⟩) (by assumption) ?r11
      case y11 => (intro w hSw; (try dsimp only at hSw); unfold oF_12; go_simp; try with_reducible rfl)
      simp only [oF_12, Act.put, List.setIfInBounds_toArray, List.set_cons_zero, List.set_cons_succ]
      refine wpAnyH_take (i := 14) (oi := oF_14) (v := ?v12) rfl (by kernel_rfl) (by kernel_rfl) (by kernel_rfl) (fun _ _ _ h => h) (Or.inl ⟨by rfl, ?y12⟩) (by assumption) ?r12
      case y12 => (intro w hSw; (try dsimp only at hSw); unfold oF_14; go_simp; try with_reducible rfl)
      simp only [oF_14, Act.put, List.setIfInBounds_toArray, List.set_cons_zero, List.set_cons_succ]
      refine wpAnyH_take (i := 16) (oi := oF_16) (v := ?v13) rfl (by kernel_rfl) (by kernel_rfl) (by kernel_rfl) (fun _ _ _ h => h) (Or.inl ⟨by rfl, ?y13⟩) (by assumption) ?r13
      case y13 => (intro w hSw; (try dsimp only at hSw); unfold oF_16; go_simp; try with_reducible rfl)
      simp only [oF_16, Act.put, List.setIfInBounds_toArray, List.set_cons_zero, List.set_cons_succ]
      refine wpAnyH_take (i := 18) (oi := oF_18) (v := ?v14) rfl (by kernel_rfl) (by kernel_rfl) (by kernel_rfl) (fun _ _ _ h => h) (Or.inl ⟨by rfl, ?y14⟩) (by assumption) ?r14
      case y14 => (intro w hSw; (try dsimp only at hSw); unfold oF_18; go_simp; try with_reducible rfl)
      simp only [oF_18, Act.put, List.setIfInBounds_toArray, List.set_cons_zero, List.set_cons_succ]
      refine wpAnyH_take (i := 3) (oi := oF_3) (v := ?v15) rfl (by kernel_rfl) (by kernel_rfl) (by kernel_rfl) (fun _ _ _ h => h) (Or.inl ⟨by rfl, ?y15⟩) (by assumption) ?r15
      case y15 => (intro w hSw; (try dsimp only at hSw); unfold oF_3; go_simp; try with_reducible rfl)
      simp only [oF_3, Act.put, List.setIfInBounds_toArray, List.set_cons_zero, List.set_cons_succ]
      refine wpAnyH_take (i := 7) (oi := oF_7) (v := ?v16) rfl (by kernel_rfl) (by kernel_rfl) (by kernel_rfl) (fun _ _ _ h => h) (Or.inl ⟨by rfl, ?y16⟩) (by assumption) ?r16
      case y16 => (intro w hSw; (try dsimp only at hSw); unfold oF_7; go_simp; try with_reducible rfl)
      simp only [oF_7, Act.put, List.setIfInBounds_toArray, List.set_cons_zero, List.set_cons_succ]
      refine wpAnyH_take (i := 8) (oi := oF_8) (v := ?v17) rfl (by kernel_rfl) (by kernel_rfl) (by kernel_rfl) (fun _ _ _ h => h) (Or.inl ⟨by rfl, ?y17⟩) (by assumption) ?r17
      case y17 => (intro w hSw; (try dsimp only at hSw); unfold oF_8; go_simp; try with_reducible rfl)
      simp only [oF_8, Act.put, List.setIfInBounds_toArray, List.set_cons_zero, List.set_cons_succ]
      refine wpAnyH_take (i := 9) (oi := oF_9) (v := ?v18) rfl (by kernel_rfl) (by kernel_rfl) (by kernel_rfl) (fun _ _ _ h => h) (Or.inl ⟨by rfl, ?y18⟩) (by assumption) ?r18
      case y18 => (intro w hSw; (try dsimp only at hSw); unfold oF_9; go_simp; try with_reducible rfl)
      simp only [oF_9, Act.put, List.setIfInBounds_toArray, List.set_cons_zero, List.set_cons_succ]
      refine wpAnyH_take (i := 19) (oi := oF_19) (v := ?v19) rfl (by kernel_rfl) (by kernel_rfl) (by kernel_rfl) (fun _ _ _ h => h) (Or.inl ⟨by rfl, ?y19⟩) (by assumption) ?r19
      case y19 => (intro w hSw; (try dsimp only at hSw); unfold oF_19; go_simp; try with_reducible rfl)
      simp only [oF_19, Act.put, List.setIfInBounds_toArray, List.set_cons_zero, List.set_cons_succ]
      refine wpAnyH_ready (rs := [4, 20]) (by kernel_rfl) (by simp) ?_
      refine AllReadyH.cons (o := oF_4) rfl (fun K hK => ?_) ?_
      · clear hHeld
        unfold oF_4
        go_simp
        refine hK.out _ _ ?hS20 (fun hHeld => ?_)
        case hS20 => ((try dsimp only); exact ⟨c2, p3, p4, p5, p7⟩)
        clear hK K
        try simp only [Act.put, List.setIfInBounds_toArray, List.set_cons_zero, List.set_cons_succ]
        refine wpAnyH_ready (rs := [20]) (by kernel_rfl) (by simp) ?_
        refine AllReadyH.cons (o := oF_20) rfl (fun K hK => ?_) ?_
        · clear hHeld
          unfold oF_20
          go_simp
          refine hK.out _ _ ?hS21 (fun hHeld => ?_)
          case hS21 => ((try dsimp only); exact sB)
          clear hK K
          try simp only [Act.put, List.setIfInBounds_toArray, List.set_cons_zero, List.set_cons_succ]
          refine wpAnyH_ready (rs := [21]) (by kernel_rfl) (by simp) ?_
          refine AllReadyH.cons (o := oF_21) rfl (fun K hK => ?_) ?_
          · clear hHeld
            unfold oF_21
            refine step_append_st (by rfl) _ _ 66 66 (by rfl) _ _ (by rfl) (by rfl) hrun.out ?_
            refine hK.out _ _ ?hS22 (fun hHeld => ?_)
            case hS22 => ((try dsimp only); exact sA)
            clear hK K
            try simp only [Act.put, List.setIfInBounds_toArray, List.set_cons_zero, List.set_cons_succ]
            refine wpAnyH_take (i := 22) (oi := oF_22) (v := ?v23) rfl (by kernel_rfl) (by kernel_rfl) (by kernel_rfl) (fun _ _ _ h => h) (Or.inl ⟨by rfl, ?y23⟩) (by assumption) ?r23
            case y23 => (intro w hSw; (try dsimp only at hSw); unfold oF_22; go_simp; try with_reducible rfl)
            simp only [oF_22, Act.put, List.setIfInBounds_toArray, List.set_cons_zero, List.set_cons_succ]
            refine wpAnyH_take (i := 23) (oi := oF_23) (v := ?v24) rfl (by kernel_rfl) (by kernel_rfl) (by kernel_rfl) (fun _ _ _ h => h) (Or.inl ⟨by rfl, ?y24⟩) (by assumption) ?r24
            case y24 => (intro w hSw; (try dsimp only at hSw); unfold oF_23; go_simp; try with_reducible rfl)
            simp only [oF_23, Act.put, List.setIfInBounds_toArray, List.set_cons_zero, List.set_cons_succ]
            refine wpAnyH_ready (rs := [24]) (by kernel_rfl) (by simp) ?_
            refine AllReadyH.cons (o := oF_24) rfl (fun K hK => ?_) ?_
            · clear hHeld
              unfold oF_24
              go_simp
              refine hK.out _ _ ?hS25 (fun hHeld => ?_)
              case hS25 => ((try dsimp only); exact sS)
              clear hK K
              try simp only [Act.put, List.setIfInBounds_toArray, List.set_cons_zero, List.set_cons_succ]
              refine wpAnyH_done (by kernel_rfl) ?_ _
              refine NoPanic.normal ?_
              clear hHeld
              clear c2 c6 p3 p4 p5 p7 d6 c8 f8 hrun sB sA sS
              go_wp2_with fail
              go_end0
              exact ⟨rfl, fp', fc', e1.out ▸ hend.out, e1.out ▸ hrow.out, hkl.out, hnew.out⟩
            exact AllReadyH.nil
          exact AllReadyH.nil
        exact AllReadyH.nil
      refine AllReadyH.cons (o := oF_20) rfl (fun K hK => ?_) ?_
      · clear hHeld
        unfold oF_20
        go_simp
        refine hK.out _ _ ?hS26 (fun hHeld => ?_)
        case hS26 => ((try dsimp only); exact sB)
        clear hK K
        try simp only [Act.put, List.setIfInBounds_toArray, List.set_cons_zero, List.set_cons_succ]
        refine wpAnyH_ready (rs := [4]) (by kernel_rfl) (by simp) ?_
        refine AllReadyH.cons (o := oF_4) rfl (fun K hK => ?_) ?_
        · clear hHeld
          unfold oF_4
          go_simp
          refine hK.out _ _ ?hS27 (fun hHeld => ?_)
          case hS27 => ((try dsimp only); exact sB)
          clear hK K
          try simp only [Act.put, List.setIfInBounds_toArray, List.set_cons_zero, List.set_cons_succ]
          refine wpAnyH_ready (rs := [21]) (by kernel_rfl) (by simp) ?_
          refine AllReadyH.cons (o := oF_21) rfl (fun K hK => ?_) ?_
          · clear hHeld
            unfold oF_21
            refine step_append_st (by rfl) _ _ 66 66 (by rfl) _ _ (by rfl) (by rfl) hrun.out ?_
            refine hK.out _ _ ?hS28 (fun hHeld => ?_)
            case hS28 => ((try dsimp only); exact sA)
            clear hK K
            try simp only [Act.put, List.setIfInBounds_toArray, List.set_cons_zero, List.set_cons_succ]
            refine wpAnyH_take (i := 22) (oi := oF_22) (v := ?v29) rfl (by kernel_rfl) (by kernel_rfl) (by kernel_rfl) (fun _ _ _ h => h) (Or.inl ⟨by rfl, ?y29⟩) (by assumption) ?r29
            case y29 => (intro w hSw; (try dsimp only at hSw); unfold oF_22; go_simp; try with_reducible rfl)
            simp only [oF_22, Act.put, List.setIfInBounds_toArray, List.set_cons_zero, List.set_cons_succ]
            refine wpAnyH_take (i := 23) (oi := oF_23) (v := ?v30) rfl (by kernel_rfl) (by kernel_rfl) (by kernel_rfl) (fun _ _ _ h => h) (Or.inl ⟨by rfl, ?y30⟩) (by assumption) ?r30
            case y30 => (intro w hSw; (try dsimp only at hSw); unfold oF_23; go_simp; try with_reducible rfl)
            simp only [oF_23, Act.put, List.setIfInBounds_toArray, List.set_cons_zero, List.set_cons_succ]
            refine wpAnyH_ready (rs := [24]) (by kernel_rfl) (by simp) ?_
            refine AllReadyH.cons (o := oF_24) rfl (fun K hK => ?_) ?_
            · clear hHeld
              unfold oF_24
              go_simp
              refine hK.out _ _ ?hS31 (fun hHeld => ?_)
              case hS31 => ((try dsimp only); exact sS)
              clear hK K
              try simp only [Act.put, List.setIfInBounds_toArray, List.set_cons_zero, List.set_cons_succ]
              refine wpAnyH_done (by kernel_rfl) ?_ _
              refine NoPanic.normal ?_
              clear hHeld
              clear c2 c6 p3 p4 p5 p7 d6 c8 f8 hrun sB sA sS
              go_wp2_with fail
              go_end0
              exact ⟨rfl, fp', fc', e1.out ▸ hend.out, e1.out ▸ hrow.out, hkl.out, hnew.out⟩
            exact AllReadyH.nil
          exact AllReadyH.nil
        exact AllReadyH.nil
      exact AllReadyH.nil
    · have he2 : (rerr != 0) = true := by simp [he]
      have hN2 := Lib.hid (hN.out (fun e => he e.2) _ hb.out)
      clear hN hB hC2 hC6 hr hsame
      replace he := Lib.hid he
      subst hk
      go_enter Tryz.func34, Tryz.ntmps34
      go_wp2_with fail
      refine bodyPost_ret (results_none rfl _ _ _) rfl ?_
      exact ⟨rfl, hN2.out⟩
  · have he2 : (okind != 3) = true := by simp [hk]
    have hN2 := Lib.hid (hN.out (fun e => hk e.1) _ hb.out)
    clear hN hB hC2 hC6 hr hsame
    replace hk := Lib.hid hk
    go_enter Tryz.func34, Tryz.ntmps34
    go_wp2_with fail
    refine bodyPost_ret (results_none rfl _ _ _) rfl ?_
    exact ⟨rfl, hN2.out⟩
end Go.Proofs.YtoihekgmomjhpaaGreatDoor

/-
  Layer 9 (no program): a log of operations: what each was answered, where a request stands first, what each timer is read as from which number on, what fired.
-/
set_option linter.unusedVariables false
namespace Ste
open Crn Nxt
/-- What a timer is read as, from the operation of a number on: the last one whose number is at most upto. -/
def readN (V : List (Nat × Rp)) (upto : Int) : Rp := ((V.filter fun v => decide ((v.1 : Int) ≤ upto)).getLast?.map (·.2)).getD ⟨6, 0, 0⟩
/-- By rising numbers, none above n. -/
def Ris (n : Nat) (V : List (Nat × Rp)) : Prop := V.Pairwise (fun u v => u.1 < v.1) ∧ ∀ v ∈ V, 1 ≤ v.1 ∧ v.1 ≤ n
def newestN (V : List (Nat × Rp)) : Nat := (V.getLast?.map (·.1)).getD 0
theorem ris_nil (n : Nat) : Ris n [] := ⟨List.Pairwise.nil, fun v h => by cases h⟩
theorem Ris.mono {n m : Nat} {V : List (Nat × Rp)} (h : Ris n V) (hm : n ≤ m) : Ris m V := ⟨h.1, fun v hv => ⟨(h.2 v hv).1, Nat.le_trans (h.2 v hv).2 hm⟩⟩
theorem Ris.snoc {n : Nat} {V : List (Nat × Rp)} (h : Ris n V) (r : Rp) : Ris (n + 1) (V ++ [(n + 1, r)]) := by
  refine ⟨List.pairwise_append.2 ⟨h.1, List.pairwise_singleton _ _, fun u hu v hv => ?_⟩, fun v hv => ?_⟩
  · simp only [List.mem_singleton] at hv
    subst hv
    have := (h.2 u hu).2
    show u.1 < n + 1
    omega
  · rcases List.mem_append.1 hv with g | g
    · have := h.2 v g; omega
    · simp only [List.mem_singleton] at g
      subst g
      show 1 ≤ n + 1 ∧ n + 1 ≤ n + 1
      omega
/-- What is appended behind a number changes nothing of what is read up to it. -/
theorem read_old {n : Nat} (V : List (Nat × Rp)) (r : Rp) {upto : Int} (h : upto ≤ n) : readN (V ++ [(n + 1, r)]) upto = readN V upto := by
  unfold readN
  rw [List.filter_append]
  have e : ([(n + 1, r)] : List (Nat × Rp)).filter (fun v => decide ((v.1 : Int) ≤ upto)) = [] := by
    rw [List.filter_eq_nil_iff]
    intro v hv
    simp only [List.mem_singleton] at hv
    subst hv
    simp only [decide_eq_true_eq]
    omega
  rw [e, List.append_nil]
/-- From the newest one on all reads are the same. -/
theorem read_newest {n : Nat} {V : List (Nat × Rp)} (h : Ris n V) {a b : Int} (ha : (newestN V : Int) ≤ a) (hb : (newestN V : Int) ≤ b) : readN V a = readN V b := by
  have key : ∀ c : Int, (newestN V : Int) ≤ c → V.filter (fun v => decide ((v.1 : Int) ≤ c)) = V := by
    intro c hc
    rw [List.filter_eq_self]
    intro v hv
    simp only [decide_eq_true_eq]
    have hle : v.1 ≤ newestN V := by
      unfold newestN
      have hne : V ≠ [] := List.ne_nil_of_mem hv
      rw [List.getLast?_eq_some_getLast hne]
      simp only [Option.map_some, Option.getD_some]
      obtain ⟨i, hi, rfl⟩ := List.mem_iff_getElem.1 hv
      rw [List.getLast_eq_getElem]
      rcases Nat.lt_or_ge i (V.length - 1) with g | g
      · exact Nat.le_of_lt (List.pairwise_iff_getElem.1 h.1 i (V.length - 1) hi (by omega) g)
      · obtain rfl : i = V.length - 1 := by omega
        exact Nat.le_refl _
    omega
  unfold readN
  rw [key a ha, key b hb]
theorem read_zero {n : Nat} {V : List (Nat × Rp)} (h : Ris n V) {a : Int} (ha : a ≤ 0) : readN V a = ⟨6, 0, 0⟩ := by
  unfold readN
  have e : V.filter (fun v => decide ((v.1 : Int) ≤ a)) = [] := by
    rw [List.filter_eq_nil_iff]
    intro v hv
    have := (h.2 v hv).1
    simp only [decide_eq_true_eq]
    omega
  rw [e]
  rfl
noncomputable def asRead (s : St) (id : Int) : Rp := match find id s.T with
  | some t => ⟨0, t.gen, t.due⟩
  | none => ⟨6, 0, 0⟩
/-! An operation changes at most its own timer. -/
theorem find_away {id i : Int} (T : List Tm) (h : id ≠ i) : find id (away i T) = find id T := by
  unfold find away
  rw [List.find?_filter]
  congr 1
  funext t
  by_cases e : t.id = id
  · have : t.id ≠ i := by omega
    simp [e]
    omega
  · simp [e]
theorem find_put {id : Int} {t : Tm} {T : List Tm} (hup : Up T) (hn : ∀ u ∈ T, u.id ≠ t.id) (h : id ≠ t.id) : find id (put t T) = find id T := by
  cases hf : find id T with
  | none =>
    refine find_none_of fun u hu => ?_
    rcases (mem_put hn).1 hu with rfl | g
    · exact fun e => h e.symm
    · exact find_none hf u g
  | some u =>
    obtain ⟨h1, h2⟩ := find_some hf
    have h3 := find_of (put_up (t := t) hup) ((mem_put hn).2 (.inr h1))
    rw [h2] at h3
    exact h3
theorem set_other {s : St} (ok : Ok s) (o : OpN) {id : Int} (h : id ≠ o.id) : find id (setN s o).1.T = find id s.T := by
  unfold setN
  split
  · rfl
  split
  · rfl
  split
  · rfl
  · show find id (put _ (away o.id s.T)) = _
    rw [find_put (away_up ok.up) (fun u hu => (mem_away.1 hu).2) h, find_away _ h]
theorem change_other {s : St} (ok : Ok s) (o : OpN) {id : Int} (h : id ≠ o.id) : find id (changeN s o).1.T = find id s.T := by
  unfold changeN
  split
  · exact set_other ok o h
  · unfold cancelN
    split
    · rfl
    · exact find_away _ h
theorem apply_other {s : St} (ok : Ok s) (o : OpN) {id : Int} (h : id ≠ o.id) : find id (applyN s o).1.T = find id s.T := by
  unfold applyN
  split
  · unfold askN
    split
    · split
      · rfl
      split
      · rfl
      · exact change_other ok o h
    · split
      · rfl
      · exact change_other ok o h
  split
  · unfold fireN
    split
    · rfl
    split
    · rfl
    · rename_i t ht
      have hid := (find_some ht).2
      show find id (if t.cron.size = 0 then _ else _) = _
      split
      · exact find_away _ h
      · rw [find_put (away_up ok.up) (fun u hu => by rw [hid]; exact (mem_away.1 hu).2) (by rw [hid]; exact h), find_away _ h]
  · rfl
/-- What one operation leaves of the versions of an Id. -/
noncomputable def verN (s : St) (o : OpN) (n : Nat) (V : Int → List (Nat × Rp)) (id : Int) : List (Nat × Rp) :=
  @ite _ (id = o.id ∧ find o.id (applyN s o).1.T ≠ find o.id s.T) (Classical.propDecidable _) (V id ++ [(n + 1, asRead (applyN s o).1 o.id)]) (V id)
/-! What is due is done, and is then no longer due. -/
theorem after_late (c : ByteArray) (sec : Int) : afterN c sec = 0 ∨ sec < afterN c sec := by
  unfold afterN
  split
  · rename_i x _
    cases h : nextN x sec with
    | none => exact .inl rfl
    | some a => exact .inr (nextN_range h).1
  · exact .inl rfl
theorem fire_due {s : St} (ok : Ok s) {t : Tm} (ht : t ∈ s.T) {now : Int} (h0 : 0 < t.due) (h1 : t.due ≤ now) {o : OpN} (hk : o.kind = 3) (hi : o.id = t.id) (hg : o.gen = t.gen) (ho : o.occ = t.due) (hs : o.stamp = now) :
    (applyN s o).2 = ⟨0, t.gen, t.due⟩ ∧ ∀ u ∈ (applyN s o).1.T, u.id = t.id → u.due = 0 ∨ now < u.due := by
  have hf : find o.id s.T = some t := by rw [hi]; exact find_of ok.up ht
  have hb : firesB s o = true := by
    unfold firesB
    rw [hf]
    simp only [hk, hg, ho, hs, decide_true, Bool.true_and, Bool.and_eq_true, decide_eq_true_eq]
    exact ⟨h0, h1⟩
  have hA : applyN s o = ({ s with T := if t.cron.size = 0 then away o.id s.T else put { t with due := afterN t.cron (max o.occ o.stamp) } (away o.id s.T) }, ⟨0, o.gen, o.occ⟩) := by
    unfold applyN
    rw [if_neg (by omega), if_pos hk]
    unfold fireN
    rw [if_neg (by rw [hb]; simp), hf]
  rw [hA, hg, ho, hs]
  refine ⟨rfl, fun u hu he => ?_⟩
  have hmx : max t.due now = now := by omega
  simp only [hmx] at hu
  split at hu
  · exact absurd (he.trans hi.symm) (mem_away.1 hu).2
  · rcases (mem_put (fun v hv => by show v.id ≠ t.id; rw [← hi]; exact (mem_away.1 hv).2)).1 hu with rfl | g
    · exact after_late _ _
    · exact absurd (he.trans hi.symm) (mem_away.1 g).2
/-- A timer that is due at now, or was. -/
def DueB (now : Int) (t : Tm) : Prop := 0 < t.due ∧ t.due ≤ now
theorem fire_less {s : St} (ok : Ok s) {t : Tm} (ht : t ∈ s.T) {now : Int} (hd : DueB now t) {o : OpN} (hk : o.kind = 3) (hi : o.id = t.id) (hg : o.gen = t.gen) (ho : o.occ = t.due) (hs : o.stamp = now) (hok : Ok (applyN s o).1) :
    ∀ u, (u ∈ (applyN s o).1.T ∧ DueB now u) ↔ (u ∈ s.T ∧ DueB now u ∧ u.id ≠ t.id) := by
  intro u
  obtain ⟨_, h2⟩ := fire_due ok ht hd.1 hd.2 hk hi hg ho hs
  constructor
  · rintro ⟨hu, hdu⟩
    have hne : u.id ≠ t.id := fun e => by
      have := h2 u hu e
      have h3 := hdu.1
      have h4 := hdu.2
      omega
    have hf := find_of hok.up hu
    rw [apply_other ok o (by rw [hi]; exact hne)] at hf
    exact ⟨(find_some hf).1, hdu, hne⟩
  · rintro ⟨hu, hdu, hne⟩
    have hf := find_of ok.up hu
    rw [← apply_other ok o (by rw [hi]; exact hne)] at hf
    exact ⟨(find_some hf).1, hdu⟩
end Ste
