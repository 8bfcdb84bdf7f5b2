/-
  Texts laid into one (a claim has 60 files at most): OApp.
-/
import Derived.Test.YtoihekgmomjhpaaGreatDoorKO5
/-
  Layer 9: Append.
-/
set_option linter.unusedVariables false
set_option linter.unusedSimpArgs false
namespace Go.Proofs.YtoihekgmomjhpaaGreatDoor
open Go.RowKit Go.MapKept Crn Nxt Ste
set_option maxRecDepth 100000
abbrev tmC (t : Tm) : Array Value := #[.int .i64 t.id, .int .i64 t.client, .int .i64 t.gen, .int .i64 t.due, .string t.cron]
theorem tmC_all (t : Tm) : (tmC t).all (·.oneCell') = true := by simp [Value.oneCell']
theorem rpC_all (r : Rp) : (rpC r).all (·.oneCell') = true := by simp [Value.oneCell']
abbrev oA10_0 : Oper := { dst := some 42, op := Go.Op.move (Go.Operand.tmp 0), type := 25, pos := "oplog.go:61", after := #[], guard := none }
abbrev oA10_1 : Oper := { dst := some 43, op := Go.Op.nilCheck (Go.Operand.tmp 42), type := 0, pos := "oplog.go:61", after := #[{ on := 0, ground := Go.Ground.data }], guard := none }
abbrev oA10_2 : Oper := { dst := some 44, op := Go.Op.fieldAddr 81 (Go.Operand.tmp 43) 0, type := 0, pos := "oplog.go:61", after := #[{ on := 1, ground := Go.Ground.data }], guard := none }
abbrev oA10_3 : Oper := { dst := some 45, op := Go.Op.load 74 (Go.Operand.tmp 44), type := 74, pos := "oplog.go:61", after := #[{ on := 2, ground := Go.Ground.data }], guard := none }
abbrev oA10_4 : Oper := { dst := some 46, op := Go.Op.fieldAddr 31 (Go.Operand.tmp 3) 3, type := 0, pos := "oplog.go:61", after := #[], guard := none }
abbrev oA10_5 : Oper := { dst := some 47, op := Go.Op.load 3 (Go.Operand.tmp 46), type := 3, pos := "oplog.go:61", after := #[{ on := 4, ground := Go.Ground.data }], guard := none }
abbrev oA10_6 : Oper := { dst := some 48, op := Go.Op.call { callee := Go.Callee.value (Go.Operand.func 30), args := #[Go.Operand.tmp 45, Go.Operand.tmp 47], argTypes := #[74, 3] }, type := 83, pos := "oplog.go:61", after := #[{ on := 3, ground := Go.Ground.data }, { on := 5, ground := Go.Ground.data }], guard := none }
abbrev oA10_7 : Oper := { dst := some 41, op := Go.Op.move (Go.Operand.tmp 48), type := 83, pos := "oplog.go:61", after := #[{ on := 6, ground := Go.Ground.data }], guard := none }
abbrev oA10_8 : Oper := { dst := some 49, op := Go.Op.extract (Go.Operand.tmp 41) 0, type := 55, pos := "oplog.go:61", after := #[{ on := 7, ground := Go.Ground.data }], guard := none }
abbrev oA10_9 : Oper := { dst := some 50, op := Go.Op.extract (Go.Operand.tmp 41) 1, type := 32, pos := "oplog.go:61", after := #[{ on := 7, ground := Go.Ground.data }, { on := 11, ground := Go.Ground.gcOnly Go.Departure.lateStores }], guard := none }
abbrev oA10_10 : Oper := { dst := some 7, op := Go.Op.alloc 55, type := 0, pos := "oplog.go:61", after := #[], guard := none }
abbrev oA10_11 : Oper := { dst := none, op := Go.Op.store 55 (Go.Operand.tmp 7) (Go.Operand.tmp 49), type := 0, pos := "oplog.go:61", after := #[{ on := 10, ground := Go.Ground.data }, { on := 8, ground := Go.Ground.data }, { on := 6, ground := Go.Ground.chain }, { on := 0, ground := Go.Ground.phase }, { on := 1, ground := Go.Ground.phase }, { on := 2, ground := Go.Ground.phase }, { on := 3, ground := Go.Ground.phase }, { on := 4, ground := Go.Ground.phase }, { on := 5, ground := Go.Ground.phase }, { on := 6, ground := Go.Ground.phase }, { on := 7, ground := Go.Ground.phase }, { on := 8, ground := Go.Ground.phase }, { on := 9, ground := Go.Ground.textOnly Go.Departure.lateStores }, { on := 10, ground := Go.Ground.phase }], guard := none }
abbrev oA10_12 : Oper := { dst := some 8, op := Go.Op.assign (Go.Operand.tmp 50), type := 32, pos := "oplog.go:61", after := #[{ on := 9, ground := Go.Ground.data }, { on := 11, ground := Go.Ground.chain }, { on := 0, ground := Go.Ground.phase }, { on := 1, ground := Go.Ground.phase }, { on := 2, ground := Go.Ground.phase }, { on := 3, ground := Go.Ground.phase }, { on := 4, ground := Go.Ground.phase }, { on := 5, ground := Go.Ground.phase }, { on := 6, ground := Go.Ground.phase }, { on := 7, ground := Go.Ground.phase }, { on := 8, ground := Go.Ground.phase }, { on := 9, ground := Go.Ground.phase }, { on := 10, ground := Go.Ground.phase }, { on := 11, ground := Go.Ground.phase }], guard := none }
abbrev oA11_0 : Oper := { dst := some 51, op := Go.Op.move (Go.Operand.tmp 0), type := 25, pos := "oplog.go:62", after := #[], guard := none }
abbrev oA11_1 : Oper := { dst := some 52, op := Go.Op.nilCheck (Go.Operand.tmp 51), type := 0, pos := "oplog.go:62", after := #[{ on := 0, ground := Go.Ground.data }], guard := none }
abbrev oA11_2 : Oper := { dst := some 53, op := Go.Op.fieldAddr 81 (Go.Operand.tmp 52) 0, type := 0, pos := "oplog.go:62", after := #[{ on := 1, ground := Go.Ground.data }], guard := none }
abbrev oA11_3 : Oper := { dst := some 54, op := Go.Op.load 74 (Go.Operand.tmp 53), type := 74, pos := "oplog.go:62", after := #[{ on := 2, ground := Go.Ground.data }], guard := none }
abbrev oA11_4 : Oper := { dst := some 55, op := Go.Op.load 31 (Go.Operand.tmp 3), type := 31, pos := "oplog.go:62", after := #[], guard := none }
abbrev oA11_5 : Oper := { dst := some 56, op := Go.Op.call { callee := Go.Callee.value (Go.Operand.func 31), args := #[Go.Operand.tmp 54, Go.Operand.tmp 55], argTypes := #[74, 31] }, type := 34, pos := "oplog.go:62", after := #[{ on := 3, ground := Go.Ground.data }, { on := 4, ground := Go.Ground.data }], guard := none }
abbrev oA11_6 : Oper := { dst := none, op := Go.Op.store 34 (Go.Operand.tmp 5) (Go.Operand.tmp 56), type := 0, pos := "oplog.go:62", after := #[{ on := 5, ground := Go.Ground.data }, { on := 5, ground := Go.Ground.chain }, { on := 0, ground := Go.Ground.phase }, { on := 1, ground := Go.Ground.phase }, { on := 2, ground := Go.Ground.phase }, { on := 3, ground := Go.Ground.phase }, { on := 4, ground := Go.Ground.phase }, { on := 5, ground := Go.Ground.phase }], guard := none }
abbrev oA12_0 : Oper := { dst := some 57, op := Go.Op.move (Go.Operand.tmp 0), type := 25, pos := "oplog.go:63", after := #[], guard := none }
abbrev oA12_1 : Oper := { dst := some 58, op := Go.Op.move (Go.Operand.tmp 0), type := 25, pos := "oplog.go:63", after := #[], guard := none }
abbrev oA12_2 : Oper := { dst := some 59, op := Go.Op.nilCheck (Go.Operand.tmp 58), type := 0, pos := "oplog.go:63", after := #[{ on := 1, ground := Go.Ground.data }], guard := none }
abbrev oA12_3 : Oper := { dst := some 60, op := Go.Op.fieldAddr 81 (Go.Operand.tmp 59) 2, type := 0, pos := "oplog.go:63", after := #[{ on := 2, ground := Go.Ground.data }], guard := none }
abbrev oA12_4 : Oper := { dst := some 61, op := Go.Op.load 22 (Go.Operand.tmp 60), type := 22, pos := "oplog.go:63", after := #[{ on := 3, ground := Go.Ground.data }], guard := none }
abbrev oA12_5 : Oper := { dst := some 62, op := Go.Op.load 31 (Go.Operand.tmp 3), type := 31, pos := "oplog.go:63", after := #[], guard := none }
abbrev oA12_6 : Oper := { dst := some 63, op := Go.Op.buildSlice 22 1 #[(0, Go.Operand.tmp 62)], type := 22, pos := "oplog.go:63", after := #[{ on := 5, ground := Go.Ground.data }], guard := none }
abbrev oA12_7 : Oper := { dst := some 64, op := Go.Op.call { callee := Go.Callee.builtin Go.Builtin.append, args := #[Go.Operand.tmp 61, Go.Operand.tmp 63], argTypes := #[22, 22] }, type := 22, pos := "oplog.go:63", after := #[{ on := 4, ground := Go.Ground.data }, { on := 6, ground := Go.Ground.data }], guard := none }
abbrev oA12_8 : Oper := { dst := some 65, op := Go.Op.nilCheck (Go.Operand.tmp 57), type := 0, pos := "oplog.go:63", after := #[{ on := 0, ground := Go.Ground.data }, { on := 0, ground := Go.Ground.phase }, { on := 1, ground := Go.Ground.phase }, { on := 2, ground := Go.Ground.phase }, { on := 3, ground := Go.Ground.phase }, { on := 4, ground := Go.Ground.phase }, { on := 5, ground := Go.Ground.phase }, { on := 6, ground := Go.Ground.phase }, { on := 7, ground := Go.Ground.phase }], guard := none }
abbrev oA12_9 : Oper := { dst := some 66, op := Go.Op.fieldAddr 81 (Go.Operand.tmp 65) 2, type := 0, pos := "oplog.go:63", after := #[{ on := 8, ground := Go.Ground.data }, { on := 0, ground := Go.Ground.phase }, { on := 1, ground := Go.Ground.phase }, { on := 2, ground := Go.Ground.phase }, { on := 3, ground := Go.Ground.phase }, { on := 4, ground := Go.Ground.phase }, { on := 5, ground := Go.Ground.phase }, { on := 6, ground := Go.Ground.phase }, { on := 7, ground := Go.Ground.phase }], guard := none }
abbrev oA12_10 : Oper := { dst := none, op := Go.Op.store 22 (Go.Operand.tmp 66) (Go.Operand.tmp 64), type := 0, pos := "oplog.go:63", after := #[{ on := 9, ground := Go.Ground.data }, { on := 7, ground := Go.Ground.data }, { on := 7, ground := Go.Ground.chain }, { on := 0, ground := Go.Ground.phase }, { on := 1, ground := Go.Ground.phase }, { on := 2, ground := Go.Ground.phase }, { on := 3, ground := Go.Ground.phase }, { on := 4, ground := Go.Ground.phase }, { on := 5, ground := Go.Ground.phase }, { on := 6, ground := Go.Ground.phase }, { on := 7, ground := Go.Ground.phase }], guard := none }
abbrev oA13_0 : Oper := { dst := some 67, op := Go.Op.move (Go.Operand.tmp 0), type := 25, pos := "oplog.go:64", after := #[], guard := none }
abbrev oA13_1 : Oper := { dst := some 68, op := Go.Op.move (Go.Operand.tmp 0), type := 25, pos := "oplog.go:64", after := #[], guard := none }
abbrev oA13_2 : Oper := { dst := some 69, op := Go.Op.nilCheck (Go.Operand.tmp 68), type := 0, pos := "oplog.go:64", after := #[{ on := 1, ground := Go.Ground.data }], guard := none }
abbrev oA13_3 : Oper := { dst := some 70, op := Go.Op.fieldAddr 81 (Go.Operand.tmp 69) 3, type := 0, pos := "oplog.go:64", after := #[{ on := 2, ground := Go.Ground.data }], guard := none }
abbrev oA13_4 : Oper := { dst := some 71, op := Go.Op.load 38 (Go.Operand.tmp 70), type := 38, pos := "oplog.go:64", after := #[{ on := 3, ground := Go.Ground.data }], guard := none }
abbrev oA13_5 : Oper := { dst := some 72, op := Go.Op.load 34 (Go.Operand.tmp 5), type := 34, pos := "oplog.go:64", after := #[], guard := none }
abbrev oA13_6 : Oper := { dst := some 73, op := Go.Op.buildSlice 38 1 #[(0, Go.Operand.tmp 72)], type := 38, pos := "oplog.go:64", after := #[{ on := 5, ground := Go.Ground.data }], guard := none }
abbrev oA13_7 : Oper := { dst := some 74, op := Go.Op.call { callee := Go.Callee.builtin Go.Builtin.append, args := #[Go.Operand.tmp 71, Go.Operand.tmp 73], argTypes := #[38, 38] }, type := 38, pos := "oplog.go:64", after := #[{ on := 4, ground := Go.Ground.data }, { on := 6, ground := Go.Ground.data }], guard := none }
abbrev oA13_8 : Oper := { dst := some 75, op := Go.Op.nilCheck (Go.Operand.tmp 67), type := 0, pos := "oplog.go:64", after := #[{ on := 0, ground := Go.Ground.data }, { on := 0, ground := Go.Ground.phase }, { on := 1, ground := Go.Ground.phase }, { on := 2, ground := Go.Ground.phase }, { on := 3, ground := Go.Ground.phase }, { on := 4, ground := Go.Ground.phase }, { on := 5, ground := Go.Ground.phase }, { on := 6, ground := Go.Ground.phase }, { on := 7, ground := Go.Ground.phase }], guard := none }
abbrev oA13_9 : Oper := { dst := some 76, op := Go.Op.fieldAddr 81 (Go.Operand.tmp 75) 3, type := 0, pos := "oplog.go:64", after := #[{ on := 8, ground := Go.Ground.data }, { on := 0, ground := Go.Ground.phase }, { on := 1, ground := Go.Ground.phase }, { on := 2, ground := Go.Ground.phase }, { on := 3, ground := Go.Ground.phase }, { on := 4, ground := Go.Ground.phase }, { on := 5, ground := Go.Ground.phase }, { on := 6, ground := Go.Ground.phase }, { on := 7, ground := Go.Ground.phase }], guard := none }
abbrev oA13_10 : Oper := { dst := none, op := Go.Op.store 38 (Go.Operand.tmp 76) (Go.Operand.tmp 74), type := 0, pos := "oplog.go:64", after := #[{ on := 9, ground := Go.Ground.data }, { on := 7, ground := Go.Ground.data }, { on := 7, ground := Go.Ground.chain }, { on := 0, ground := Go.Ground.phase }, { on := 1, ground := Go.Ground.phase }, { on := 2, ground := Go.Ground.phase }, { on := 3, ground := Go.Ground.phase }, { on := 4, ground := Go.Ground.phase }, { on := 5, ground := Go.Ground.phase }, { on := 6, ground := Go.Ground.phase }, { on := 7, ground := Go.Ground.phase }], guard := none }
abbrev oA17_0 : Oper := { dst := some 91, op := Go.Op.move (Go.Operand.tmp 0), type := 25, pos := "oplog.go:68", after := #[], guard := none }
abbrev oA17_1 : Oper := { dst := some 92, op := Go.Op.nilCheck (Go.Operand.tmp 91), type := 0, pos := "oplog.go:68", after := #[{ on := 0, ground := Go.Ground.data }], guard := none }
abbrev oA17_2 : Oper := { dst := some 93, op := Go.Op.fieldAddr 81 (Go.Operand.tmp 92) 2, type := 0, pos := "oplog.go:68", after := #[{ on := 1, ground := Go.Ground.data }], guard := none }
abbrev oA17_3 : Oper := { dst := some 94, op := Go.Op.load 22 (Go.Operand.tmp 93), type := 22, pos := "oplog.go:68", after := #[{ on := 2, ground := Go.Ground.data }], guard := none }
abbrev oA17_4 : Oper := { dst := some 95, op := Go.Op.call { callee := Go.Callee.builtin Go.Builtin.len, args := #[Go.Operand.tmp 94], argTypes := #[22] }, type := 3, pos := "oplog.go:68", after := #[{ on := 3, ground := Go.Ground.data }], guard := none }
abbrev oA17_5 : Oper := { dst := some 96, op := Go.Op.load 34 (Go.Operand.tmp 5), type := 34, pos := "oplog.go:68", after := #[{ on := 6, ground := Go.Ground.gcOnly Go.Departure.lateStores }], guard := none }
abbrev oA17_6 : Oper := { dst := some 4, op := Go.Op.assign (Go.Operand.tmp 95), type := 3, pos := "oplog.go:68", after := #[{ on := 4, ground := Go.Ground.data }, { on := 0, ground := Go.Ground.phase }, { on := 1, ground := Go.Ground.phase }, { on := 2, ground := Go.Ground.phase }, { on := 3, ground := Go.Ground.phase }, { on := 4, ground := Go.Ground.phase }, { on := 5, ground := Go.Ground.textOnly Go.Departure.lateStores }], guard := none }
abbrev oA17_7 : Oper := { dst := none, op := Go.Op.store 34 (Go.Operand.tmp 5) (Go.Operand.tmp 96), type := 0, pos := "oplog.go:68", after := #[{ on := 5, ground := Go.Ground.data }, { on := 6, ground := Go.Ground.chain }, { on := 0, ground := Go.Ground.phase }, { on := 1, ground := Go.Ground.phase }, { on := 2, ground := Go.Ground.phase }, { on := 3, ground := Go.Ground.phase }, { on := 4, ground := Go.Ground.phase }, { on := 5, ground := Go.Ground.phase }, { on := 6, ground := Go.Ground.phase }], guard := none }
abbrev oA17_8 : Oper := { dst := some 6, op := Go.Op.assign (Go.Operand.const (Go.Value.int Go.IntKind.i64 0)), type := 32, pos := "oplog.go:68", after := #[{ on := 7, ground := Go.Ground.chain }, { on := 0, ground := Go.Ground.phase }, { on := 1, ground := Go.Ground.phase }, { on := 2, ground := Go.Ground.phase }, { on := 3, ground := Go.Ground.phase }, { on := 4, ground := Go.Ground.phase }, { on := 5, ground := Go.Ground.phase }, { on := 6, ground := Go.Ground.phase }, { on := 7, ground := Go.Ground.phase }], guard := none }
/-- What an operation leaves of a log. -/
noncomputable def appG (g : Lo) (s : St) (o : OpN) : Lo :=
  let g3 := keepV { g with ops := g.ops ++ [o], rps := g.rps ++ [(applyN s o).2], rt := addR g.rt o (g.ops ++ [o]).length } s.T (applyN s o).1.T o.id
  { g3 with fires := g3.fires ++ fireOf o (applyN s o).2 g3.ops.length (valT s.T o.id).client }
theorem keepV_ops (g : Lo) (T0 T : List Tm) (id : Int) : (keepV g T0 T id).ops = g.ops ∧ (keepV g T0 T id).rps = g.rps ∧ (keepV g T0 T id).rt = g.rt ∧ (keepV g T0 T id).fires = g.fires := by
  unfold keepV
  split <;> exact ⟨rfl, rfl, rfl, rfl⟩
set_option maxHeartbeats 8000000 in
theorem append_any {w0 w : World} {b c wb now : Nat} {s : St} {l : List Whl.ItemN} {x : Pl} {g : Lo} {M : List Nat} {PP : World → Prop} (h : Lx w0 w b s c wb now l x g M PP) (tb : Tab w0) (nt : NTab w0) (hc : c ≤ 900000) (o : OpN) (ho : OpOk o) (hl : WIn l s.T) (hlen : g.ops.length < 2000) (hcr : o.cron.size ≤ 256)
    (hrl : g.rps.length ≤ 10000) (hfl : g.fires.length ≤ 10000) (hvl : (g.ver o.id).length ≤ 10000) (hd : ∀ t ∈ (applyN s o).1.T, 0 ≤ t.due ∧ t.due ≤ 1099511627776) :
    Calls Tryz.prog 10 #[.pointer (some ⟨x.lb, 0, none⟩), opV o] w fun e w' => e = .returned (.tuple #[.int .i64 ((g.ops.length + 1 : Nat) : Int), rpV (applyN s o).2, .int .i64 0]) ∧
      ∃ x' l', x'.lb = x.lb ∧ WIn l' (applyN s o).1.T ∧ Lx w0 w' b (applyN s o).1 (c + 1) wb now l' x' (appG g s o) M PP := by
  have ht0 : s.T.length ≤ 16 := by have := h.lw.ok.full; have := h.lw.ok.room1; omega
  have hoth : ∀ i, i ≠ o.id → valT (applyN s o).1.T i = valT s.T i := fun i hi => by unfold valT; rw [apply_other h.lw.ok o hi]
  replace hoth := Lib.hid hoth
  replace hd := Lib.hid hd
  have st0 := Lib.hid h.st
  have hm : Hid (∀ k, k ∈ M → k < w.heap.size) := fun k hk => (h.lw.lt k (List.mem_append.2 (.inl hk))).2
  have h1 := (h.tmp (.cells (opC o) 31)).tmp (.cells #[.int .i64 0, .int .i64 0, .int .i64 0] 34)
  have hs1 : (w.alloc (.cells (opC o) 31)).heap.size = w.heap.size + 1 := by simp
  rw [hs1] at h1
  replace h1 := Lib.hid h1
  have hlt : (g.ops.length : Int) < 2000 := by omega
  have hcr2 : (o.cron.size : Int) ≤ 256 := by omega
  have hb2 := cell_in h1.out.lp.box 2
  have hb0 := cell_in h1.out.lp.box 0
  have ho9 := cell_in h1.out.pp.2.1 9
  obtain ⟨okind, oclient, oreq, oid, ogen, oocc, odue, ostamp, oepoch, ocron⟩ := o
  simp only at *
  clear hs1 h hcr hlen
  go_enter Tryz.func10, Tryz.ntmps10
  go_wp2_with fail
  refine (clone_any ocron _ (by omega)).mono ?_
  rintro e w2 ⟨rfl, B2⟩
  have h2 := h1.out.below B2
  clear hb2 hb0 ho9 hlt hcr2
  have oc2 := cell_in h2.pp.2.1 9
  have of2 := free_in h2.pp.2.1 9
  have h3 : Lx w0 (w2.setCell ⟨w.heap.size, 9, none⟩ (.string ocron)) b s c wb now l x g ((w.heap.size + 1) :: w.heap.size :: M) _ := h2.turn (Kl.setCell (Kl.refl _ _) (by simp) 9 _) h2.st ⟨(heap_setCell_other _ _ _ _ (show w.heap.size + 1 ≠ w.heap.size by omega)).trans h2.pp.1, heap_setCell_same w2 w.heap.size 9 _ _ _ h2.pp.2.1, st0.out w2 _ (by simp [World.setCell]) (fun k hk => heap_setCell_other _ _ _ _ (fun e => by have := hm.out k hk; have e2 : k = w.heap.size := e; omega)) h2.pp.2.2⟩
  replace h3 := Lib.hid h3
  clear h2 h1
  replace B2 := Lib.hid B2
  go_wp2_with fail
  clear oc2 of2 B2
  generalize w2.setCell ⟨w.heap.size, 9, none⟩ (.string ocron) = w3 at *
  have a0 := cell_in h3.out.lp.box 0
  have a3 := cell_in h3.out.pp.2.1 3
  have hidd : i64 oid := ho.id
  have h3a := Lib.hid (h3.out.tmp zCells).drew
  have b0 := cell_in h3a.out.lp.box 0
  have b3 := cell_in h3a.out.pp.2.2.1 3
  have hsz3 : w.heap.size + 2 ≤ w3.heap.size := by have := (h3.out.lw.lt (w.heap.size + 1) (by simp)).2; omega
  have hfr : Hid (∀ q, w.heap.size + 2 ≤ q → q ∉ (w.heap.size + 1) :: w.heap.size :: M) := fun q e1 e2 => by
    rcases List.mem_cons.1 e2 with e | e
    · omega
    rcases List.mem_cons.1 e with e | e
    · omega
    have := hm.out q e
    omega
  have hfq : Hid ((w.heap.size + 1) ∉ w.heap.size :: M) := fun e2 => by
    rcases List.mem_cons.1 e2 with e | e
    · omega
    have := hm.out _ e
    omega
  go_cut [7, 8] from 41 (fun v u wc => ∃ q, v = .pointer (some ⟨q, 0, none⟩) ∧ w.heap.size + 2 ≤ q ∧ Hid (Lx w0 wc b s c wb now l x g (q :: (w.heap.size + 1) :: w.heap.size :: M) (fun W => W.heap[q]? = some (.cells (tmC (valT s.T oid)) 55) ∧ W.heap[w.heap.size + 1]? = some (.cells #[.int .i64 0, .int .i64 0, .int .i64 0] 34) ∧ W.heap[w.heap.size]? = some (.cells (opC ⟨okind, oclient, oreq, oid, ogen, oocc, odue, ostamp, oepoch, ocron⟩) 31) ∧ PP W)))
  case first =>
    refine wp_region_noPanic ?_
    refine wp_region_held_drew (S := fun w' => w'.cell? ⟨x.lb, 0, none⟩ = some (.pointer (some ⟨b, 0, none⟩)) ∧ w'.cell? ⟨w.heap.size, 3, none⟩ = some (.int .i64 oid)) (by kernel_rfl) ?hSoA10_0 (fun hHeld => ?_)
    case hSoA10_0 => ((try dsimp only); exact ⟨a0, a3⟩)
    refine wpAnyH_take (i := 0) (oi := oA10_0) (v := ?voA10_1) rfl (by kernel_rfl) (by kernel_rfl) (by kernel_rfl) (fun _ _ _ h => h) (Or.inl ⟨by rfl, ?yoA10_1⟩) (by assumption) ?roA10_1
    case yoA10_1 => (intro w hSw; (try dsimp only at hSw); unfold oA10_0; go_simp; try with_reducible rfl)
    simp only [oA10_0, Act.put, List.setIfInBounds_toArray, List.set_cons_zero, List.set_cons_succ]
    refine wpAnyH_take (i := 4) (oi := oA10_4) (v := ?voA10_2) rfl (by kernel_rfl) (by kernel_rfl) (by kernel_rfl) (fun _ _ _ h => h) (Or.inl ⟨by rfl, ?yoA10_2⟩) (by assumption) ?roA10_2
    case yoA10_2 => (intro w hSw; (try dsimp only at hSw); unfold oA10_4; go_simp; try with_reducible rfl)
    simp only [oA10_4, Act.put, List.setIfInBounds_toArray, List.set_cons_zero, List.set_cons_succ]
    refine wpAnyH_take (i := 1) (oi := oA10_1) (v := ?voA10_3) rfl (by kernel_rfl) (by kernel_rfl) (by kernel_rfl) (fun _ _ _ h => h) (Or.inl ⟨by rfl, ?yoA10_3⟩) (by assumption) ?roA10_3
    case yoA10_3 => (intro w hSw; (try dsimp only at hSw); unfold oA10_1; go_simp; try with_reducible rfl)
    simp only [oA10_1, Act.put, List.setIfInBounds_toArray, List.set_cons_zero, List.set_cons_succ]
    refine wpAnyH_take (i := 5) (oi := oA10_5) (v := ?voA10_4) rfl (by kernel_rfl) (by kernel_rfl) (by kernel_rfl) (fun _ _ _ h => h) (Or.inl ⟨by rfl, ?yoA10_4⟩) (by assumption) ?roA10_4
    case yoA10_4 => (intro w hSw; (try dsimp only at hSw); unfold oA10_5; go_simp; try with_reducible rfl)
    simp only [oA10_5, Act.put, List.setIfInBounds_toArray, List.set_cons_zero, List.set_cons_succ]
    refine wpAnyH_take (i := 2) (oi := oA10_2) (v := ?voA10_5) rfl (by kernel_rfl) (by kernel_rfl) (by kernel_rfl) (fun _ _ _ h => h) (Or.inl ⟨by rfl, ?yoA10_5⟩) (by assumption) ?roA10_5
    case yoA10_5 => (intro w hSw; (try dsimp only at hSw); unfold oA10_2; go_simp; try with_reducible rfl)
    simp only [oA10_2, Act.put, List.setIfInBounds_toArray, List.set_cons_zero, List.set_cons_succ]
    refine wpAnyH_take (i := 3) (oi := oA10_3) (v := ?voA10_6) rfl (by kernel_rfl) (by kernel_rfl) (by kernel_rfl) (fun _ _ _ h => h) (Or.inl ⟨by rfl, ?yoA10_6⟩) (by assumption) ?roA10_6
    case yoA10_6 => (intro w hSw; (try dsimp only at hSw); unfold oA10_3; go_simp; try with_reducible rfl)
    simp only [oA10_3, Act.put, List.setIfInBounds_toArray, List.set_cons_zero, List.set_cons_succ]
    refine wpAnyH_ready (rs := [6, 10]) (by kernel_rfl) (by simp) ?_
    refine AllReadyH.cons (o := oA10_6) rfl (fun K hK => ?_) ?_
    · clear hHeld
      unfold oA10_6
      go_simp
      refine (h3.out.drew.get oid hidd).mono ?_
      rintro e w4 ⟨rfl, h4⟩
      have d0 := cell_in h4.lp.box 0
      have d3 := cell_in h4.pp.2.1 3
      replace h4 := Lib.hid h4
      refine hK.out _ _ ?hSoA10_7 (fun hHeld => ?_)
      case hSoA10_7 => ((try dsimp only); exact ⟨d0, d3⟩)
      clear hK K
      try simp only [Act.put, List.setIfInBounds_toArray, List.set_cons_zero, List.set_cons_succ]
      refine wpAnyH_take (i := 7) (oi := oA10_7) (v := ?voA10_8) rfl (by kernel_rfl) (by kernel_rfl) (by kernel_rfl) (fun _ _ _ h => h) (Or.inl ⟨by rfl, ?yoA10_8⟩) (by assumption) ?roA10_8
      case yoA10_8 => (intro w hSw; (try dsimp only at hSw); unfold oA10_7; go_simp; try with_reducible rfl)
      simp only [oA10_7, Act.put, List.setIfInBounds_toArray, List.set_cons_zero, List.set_cons_succ]
      refine wpAnyH_take (i := 8) (oi := oA10_8) (v := ?voA10_9) rfl (by kernel_rfl) (by kernel_rfl) (by kernel_rfl) (fun _ _ _ h => h) (Or.inl ⟨by rfl, ?yoA10_9⟩) (by assumption) ?roA10_9
      case yoA10_9 => (intro w hSw; (try dsimp only at hSw); unfold oA10_8; go_simp; try with_reducible rfl)
      simp only [oA10_8, Act.put, List.setIfInBounds_toArray, List.set_cons_zero, List.set_cons_succ]
      refine wpAnyH_take (i := 9) (oi := oA10_9) (v := ?voA10_10) rfl (by kernel_rfl) (by kernel_rfl) (by kernel_rfl) (fun _ _ _ h => h) (Or.inl ⟨by rfl, ?yoA10_10⟩) (by assumption) ?roA10_10
      case yoA10_10 => (intro w hSw; (try dsimp only at hSw); unfold oA10_9; go_simp; try with_reducible rfl)
      simp only [oA10_9, Act.put, List.setIfInBounds_toArray, List.set_cons_zero, List.set_cons_succ]
      refine wpAnyH_ready (rs := [10]) (by kernel_rfl) (by simp) ?_
      refine AllReadyH.cons (o := oA10_10) rfl (fun K hK => ?_) ?_
      · clear hHeld
        unfold oA10_10
        go_simp
        have h5 := Lib.hid (h4.out.tmp zCells)
        have sz5 : w.heap.size + 2 ≤ w4.heap.size := by have := (h4.out.lw.lt (w.heap.size + 1) (by simp)).2; omega
        have g0 := cell_in h5.out.lp.box 0
        have g3 := cell_in h5.out.pp.2.2.1 3
        refine hK.out _ _ ?hSoA10_11 (fun hHeld => ?_)
        case hSoA10_11 => ((try dsimp only); exact ⟨g0, g3⟩)
        clear hK K
        try simp only [Act.put, List.setIfInBounds_toArray, List.set_cons_zero, List.set_cons_succ]
        refine wpAnyH_ready (rs := [11]) (by kernel_rfl) (by simp) ?_
        refine AllReadyH.cons (o := oA10_11) rfl (fun K hK => ?_) ?_
        · clear hHeld
          unfold oA10_11
          refine step_store_row (by rfl) 55 _ _ (by rfl) _ (tmC (valT s.T oid)) (by rfl) (by rfl) 55 _ h5.out.pp.1 (by kernel_rfl) (by rfl) (tmC_all _) ?_
          have h6 := Lib.hid (h5.out.setRow h3.out.st (hfr.out _ sz5) (tmC (valT s.T oid)))
          have k0 := cell_in h6.out.lp.box 0
          have k3 := cell_in h6.out.pp.2.2.1 3
          refine hK.out _ _ ?hSoA10_12 (fun hHeld => ?_)
          case hSoA10_12 => ((try dsimp only); exact ⟨k0, k3⟩)
          clear hK K
          try simp only [Act.put, List.setIfInBounds_toArray, List.set_cons_zero, List.set_cons_succ]
          refine wpAnyH_take (i := 12) (oi := oA10_12) (v := ?voA10_13) rfl (by kernel_rfl) (by kernel_rfl) (by kernel_rfl) (fun _ _ _ h => h) (Or.inl ⟨by rfl, ?yoA10_13⟩) (by assumption) ?roA10_13
          case yoA10_13 => (intro w hSw; (try dsimp only at hSw); unfold oA10_12; go_simp; try with_reducible rfl)
          simp only [oA10_12, Act.put, List.setIfInBounds_toArray, List.set_cons_zero, List.set_cons_succ]
          refine wpAnyH_done (by kernel_rfl) ?_ _
          refine NoPanic.normal ?_
          clear hHeld
          go_wp2_with fail
          go_meet
          exact ⟨_, rfl, sz5, h6⟩
        exact AllReadyH.nil
      exact AllReadyH.nil
    refine AllReadyH.cons (o := oA10_10) rfl (fun K hK => ?_) ?_
    · clear hHeld
      unfold oA10_10
      go_simp
      refine hK.out _ _ ?hSoA10_14 (fun hHeld => ?_)
      case hSoA10_14 => ((try dsimp only); exact ⟨b0, b3⟩)
      clear hK K
      try simp only [Act.put, List.setIfInBounds_toArray, List.set_cons_zero, List.set_cons_succ]
      refine wpAnyH_ready (rs := [6]) (by kernel_rfl) (by simp) ?_
      refine AllReadyH.cons (o := oA10_6) rfl (fun K hK => ?_) ?_
      · clear hHeld
        unfold oA10_6
        go_simp
        refine (h3a.out.get oid hidd).mono ?_
        rintro e w4 ⟨rfl, h4⟩
        have d0 := cell_in h4.lp.box 0
        have d3 := cell_in h4.pp.2.2.1 3
        replace h4 := Lib.hid h4
        have h5 := h4
        have sz5 := hsz3
        refine hK.out _ _ ?hSoA10_15 (fun hHeld => ?_)
        case hSoA10_15 => ((try dsimp only); exact ⟨d0, d3⟩)
        clear hK K
        try simp only [Act.put, List.setIfInBounds_toArray, List.set_cons_zero, List.set_cons_succ]
        refine wpAnyH_take (i := 7) (oi := oA10_7) (v := ?voA10_16) rfl (by kernel_rfl) (by kernel_rfl) (by kernel_rfl) (fun _ _ _ h => h) (Or.inl ⟨by rfl, ?yoA10_16⟩) (by assumption) ?roA10_16
        case yoA10_16 => (intro w hSw; (try dsimp only at hSw); unfold oA10_7; go_simp; try with_reducible rfl)
        simp only [oA10_7, Act.put, List.setIfInBounds_toArray, List.set_cons_zero, List.set_cons_succ]
        refine wpAnyH_take (i := 8) (oi := oA10_8) (v := ?voA10_17) rfl (by kernel_rfl) (by kernel_rfl) (by kernel_rfl) (fun _ _ _ h => h) (Or.inl ⟨by rfl, ?yoA10_17⟩) (by assumption) ?roA10_17
        case yoA10_17 => (intro w hSw; (try dsimp only at hSw); unfold oA10_8; go_simp; try with_reducible rfl)
        simp only [oA10_8, Act.put, List.setIfInBounds_toArray, List.set_cons_zero, List.set_cons_succ]
        refine wpAnyH_take (i := 9) (oi := oA10_9) (v := ?voA10_18) rfl (by kernel_rfl) (by kernel_rfl) (by kernel_rfl) (fun _ _ _ h => h) (Or.inl ⟨by rfl, ?yoA10_18⟩) (by assumption) ?roA10_18
        case yoA10_18 => (intro w hSw; (try dsimp only at hSw); unfold oA10_9; go_simp; try with_reducible rfl)
        simp only [oA10_9, Act.put, List.setIfInBounds_toArray, List.set_cons_zero, List.set_cons_succ]
        refine wpAnyH_ready (rs := [11]) (by kernel_rfl) (by simp) ?_
        refine AllReadyH.cons (o := oA10_11) rfl (fun K hK => ?_) ?_
        · clear hHeld
          unfold oA10_11
          refine step_store_row (by rfl) 55 _ _ (by rfl) _ (tmC (valT s.T oid)) (by rfl) (by rfl) 55 _ h5.out.pp.1 (by kernel_rfl) (by rfl) (tmC_all _) ?_
          have h6 := Lib.hid (h5.out.setRow h3.out.st (hfr.out _ sz5) (tmC (valT s.T oid)))
          have k0 := cell_in h6.out.lp.box 0
          have k3 := cell_in h6.out.pp.2.2.1 3
          refine hK.out _ _ ?hSoA10_19 (fun hHeld => ?_)
          case hSoA10_19 => ((try dsimp only); exact ⟨k0, k3⟩)
          clear hK K
          try simp only [Act.put, List.setIfInBounds_toArray, List.set_cons_zero, List.set_cons_succ]
          refine wpAnyH_take (i := 12) (oi := oA10_12) (v := ?voA10_20) rfl (by kernel_rfl) (by kernel_rfl) (by kernel_rfl) (fun _ _ _ h => h) (Or.inl ⟨by rfl, ?yoA10_20⟩) (by assumption) ?roA10_20
          case yoA10_20 => (intro w hSw; (try dsimp only at hSw); unfold oA10_12; go_simp; try with_reducible rfl)
          simp only [oA10_12, Act.put, List.setIfInBounds_toArray, List.set_cons_zero, List.set_cons_succ]
          refine wpAnyH_done (by kernel_rfl) ?_ _
          refine NoPanic.normal ?_
          clear hHeld
          go_wp2_with fail
          go_meet
          exact ⟨_, rfl, sz5, h6⟩
        exact AllReadyH.nil
      exact AllReadyH.nil
    exact AllReadyH.nil
  case rest =>
    obtain ⟨q, rfl, hq, h6⟩ := hcut
    obtain ⟨w5, hw5⟩ : ∃ x, x = wc := ⟨_, rfl⟩
    subst hw5
    clear h3a h3 b0 b3 a0 a3 hsz3
    go_upto_region 11 with fail
    have a0 := cell_in h6.out.lp.box 0
    have sO : Hid (∀ W : World, W.heap[w.heap.size]? = some (.cells (opC ⟨okind, oclient, oreq, oid, ogen, oocc, odue, ostamp, oepoch, ocron⟩) 31) → W.cell? ⟨w.heap.size, 0, none⟩ = some (.int .i64 okind) ∧ W.cell? ⟨w.heap.size, 1, none⟩ = some (.int .i64 oclient) ∧ W.cell? ⟨w.heap.size, 2, none⟩ = some (.int .i64 oreq) ∧ W.cell? ⟨w.heap.size, 3, none⟩ = some (.int .i64 oid) ∧ W.cell? ⟨w.heap.size, 4, none⟩ = some (.int .i64 ogen) ∧ W.cell? ⟨w.heap.size, 5, none⟩ = some (.int .i64 oocc) ∧ W.cell? ⟨w.heap.size, 6, none⟩ = some (.int .i64 odue) ∧ W.cell? ⟨w.heap.size, 7, none⟩ = some (.int .i64 ostamp) ∧ W.cell? ⟨w.heap.size, 8, none⟩ = some (.int .i64 oepoch) ∧ W.cell? ⟨w.heap.size, 9, none⟩ = some (.string ocron)) := fun W e => ⟨cell_in e 0, cell_in e 1, cell_in e 2, cell_in e 3, cell_in e 4, cell_in e 5, cell_in e 6, cell_in e 7, cell_in e 8, cell_in e 9⟩
    obtain ⟨y0, y1, y2, y3, y4, y5, y6, y7, y8, y9⟩ := sO.out w5 h6.out.pp.2.2.1
    go_cut [7] from 51 (fun v wc => v = .pointer (some ⟨q, 0, none⟩) ∧ Hid (Lx w0 wc b (applyN s ⟨okind, oclient, oreq, oid, ogen, oocc, odue, ostamp, oepoch, ocron⟩).1 (c + 1) wb now l x g (q :: (w.heap.size + 1) :: w.heap.size :: M) (fun W => W.heap[q]? = some (.cells (tmC (valT s.T oid)) 55) ∧ W.heap[w.heap.size + 1]? = some (.cells (rpC (applyN s ⟨okind, oclient, oreq, oid, ogen, oocc, odue, ostamp, oepoch, ocron⟩).2) 34) ∧ W.heap[w.heap.size]? = some (.cells (opC ⟨okind, oclient, oreq, oid, ogen, oocc, odue, ostamp, oepoch, ocron⟩) 31) ∧ PP W)))
    case first =>
      refine wp_region_noPanic ?_
      refine wp_region_held_drew (S := fun w' => w'.cell? ⟨x.lb, 0, none⟩ = some (.pointer (some ⟨b, 0, none⟩)) ∧ w'.cell? ⟨w.heap.size, 0, none⟩ = some (.int .i64 okind) ∧ w'.cell? ⟨w.heap.size, 1, none⟩ = some (.int .i64 oclient) ∧ w'.cell? ⟨w.heap.size, 2, none⟩ = some (.int .i64 oreq) ∧ w'.cell? ⟨w.heap.size, 3, none⟩ = some (.int .i64 oid) ∧ w'.cell? ⟨w.heap.size, 4, none⟩ = some (.int .i64 ogen) ∧ w'.cell? ⟨w.heap.size, 5, none⟩ = some (.int .i64 oocc) ∧ w'.cell? ⟨w.heap.size, 6, none⟩ = some (.int .i64 odue) ∧ w'.cell? ⟨w.heap.size, 7, none⟩ = some (.int .i64 ostamp) ∧ w'.cell? ⟨w.heap.size, 8, none⟩ = some (.int .i64 oepoch) ∧ w'.cell? ⟨w.heap.size, 9, none⟩ = some (.string ocron)) (by kernel_rfl) ?hSoA11_0 (fun hHeld => ?_)
      case hSoA11_0 => ((try dsimp only); exact ⟨a0, y0, y1, y2, y3, y4, y5, y6, y7, y8, y9⟩)
      refine wpAnyH_take (i := 0) (oi := oA11_0) (v := ?voA11_1) rfl (by kernel_rfl) (by kernel_rfl) (by kernel_rfl) (fun _ _ _ h => h) (Or.inl ⟨by rfl, ?yoA11_1⟩) (by assumption) ?roA11_1
      case yoA11_1 => (intro w hSw; (try dsimp only at hSw); unfold oA11_0; go_simp; try with_reducible rfl)
      simp only [oA11_0, Act.put, List.setIfInBounds_toArray, List.set_cons_zero, List.set_cons_succ]
      refine wpAnyH_take (i := 4) (oi := oA11_4) (v := ?voA11_2) rfl (by kernel_rfl) (by kernel_rfl) (by kernel_rfl) (fun _ _ _ h => h) (Or.inl ⟨by rfl, ?yoA11_2⟩) (by assumption) ?roA11_2
      case yoA11_2 => (intro w hSw; (try dsimp only at hSw); unfold oA11_4; go_simp; try with_reducible rfl)
      simp only [oA11_4, Act.put, List.setIfInBounds_toArray, List.set_cons_zero, List.set_cons_succ]
      refine wpAnyH_take (i := 1) (oi := oA11_1) (v := ?voA11_3) rfl (by kernel_rfl) (by kernel_rfl) (by kernel_rfl) (fun _ _ _ h => h) (Or.inl ⟨by rfl, ?yoA11_3⟩) (by assumption) ?roA11_3
      case yoA11_3 => (intro w hSw; (try dsimp only at hSw); unfold oA11_1; go_simp; try with_reducible rfl)
      simp only [oA11_1, Act.put, List.setIfInBounds_toArray, List.set_cons_zero, List.set_cons_succ]
      refine wpAnyH_take (i := 2) (oi := oA11_2) (v := ?voA11_4) rfl (by kernel_rfl) (by kernel_rfl) (by kernel_rfl) (fun _ _ _ h => h) (Or.inl ⟨by rfl, ?yoA11_4⟩) (by assumption) ?roA11_4
      case yoA11_4 => (intro w hSw; (try dsimp only at hSw); unfold oA11_2; go_simp; try with_reducible rfl)
      simp only [oA11_2, Act.put, List.setIfInBounds_toArray, List.set_cons_zero, List.set_cons_succ]
      refine wpAnyH_take (i := 3) (oi := oA11_3) (v := ?voA11_5) rfl (by kernel_rfl) (by kernel_rfl) (by kernel_rfl) (fun _ _ _ h => h) (Or.inl ⟨by rfl, ?yoA11_5⟩) (by assumption) ?roA11_5
      case yoA11_5 => (intro w hSw; (try dsimp only at hSw); unfold oA11_3; go_simp; try with_reducible rfl)
      simp only [oA11_3, Act.put, List.setIfInBounds_toArray, List.set_cons_zero, List.set_cons_succ]
      refine wpAnyH_ready (rs := [5]) (by kernel_rfl) (by simp) ?_
      refine AllReadyH.cons (o := oA11_5) rfl (fun K hK => ?_) ?_
      · clear hHeld
        unfold oA11_5
        go_simp
        refine (h6.out.drew.apply tb nt hc ⟨okind, oclient, oreq, oid, ogen, oocc, odue, ostamp, oepoch, ocron⟩ ho).mono ?_
        rintro e w6 ⟨rfl, h7⟩
        have a1 := cell_in h7.lp.box 0
        have z := sO.out _ h7.pp.2.2.1
        replace h7 := Lib.hid h7
        refine hK.out _ _ ?hSoA11_6 (fun hHeld => ?_)
        case hSoA11_6 => ((try dsimp only); exact ⟨a1, z⟩)
        clear hK K
        try simp only [Act.put, List.setIfInBounds_toArray, List.set_cons_zero, List.set_cons_succ]
        refine wpAnyH_ready (rs := [6]) (by kernel_rfl) (by simp) ?_
        refine AllReadyH.cons (o := oA11_6) rfl (fun K hK => ?_) ?_
        · clear hHeld
          unfold oA11_6
          refine step_store_row (by rfl) 34 _ _ (by rfl) _ (rpC (applyN s ⟨okind, oclient, oreq, oid, ogen, oocc, odue, ostamp, oepoch, ocron⟩).2) (by rfl) (by rfl) 34 _ h7.out.pp.2.1 (by kernel_rfl) (by rfl) (rpC_all _) ?_
          have h8 := Lib.hid (h7.out.setRow2 (stab_cons _ _ st0.out) hfq.out (by omega) (rpC (applyN s ⟨okind, oclient, oreq, oid, ogen, oocc, odue, ostamp, oepoch, ocron⟩).2))
          have a2 := cell_in h8.out.lp.box 0
          have z2 := sO.out _ h8.out.pp.2.2.1
          refine hK.out _ _ ?hSoA11_7 (fun hHeld => ?_)
          case hSoA11_7 => ((try dsimp only); exact ⟨a2, z2⟩)
          clear hK K
          try simp only [Act.put, List.setIfInBounds_toArray, List.set_cons_zero, List.set_cons_succ]
          refine wpAnyH_done (by kernel_rfl) ?_ _
          refine NoPanic.normal ?_
          clear hHeld
          go_wp2_with fail
          go_meet
          exact ⟨rfl, h8⟩
        exact AllReadyH.nil
      exact AllReadyH.nil
    case rest =>
      obtain ⟨rfl, h7⟩ := hcut
      obtain ⟨w6, hw6⟩ : ∃ x, x = wc := ⟨_, rfl⟩
      subst hw6
      clear h6 a0 y0 y1 y2 y3 y4 y5 y6 y7 y8 y9
      go_upto_region 12 with fail
      have sF := sO
      obtain ⟨p', cap', w8, hrun, kb, km, h9⟩ := h7.out.pushOp ⟨okind, oclient, oreq, oid, ogen, oocc, odue, ostamp, oepoch, ocron⟩ (by omega)
      replace h9 := Lib.hid h9
      have kv : Below w6.heap.size w6 (w6.alloc (.cells (opC ⟨okind, oclient, oreq, oid, ogen, oocc, odue, ostamp, oepoch, ocron⟩) 31)) := (Below.refl _ _).alloc (Nat.le_refl _) _
      have hB := h7.out.lp.box
      have hblk := h7.out.pp.2.2.1
      have c2 : w6.cell? ⟨x.lb, 2, none⟩ = some (.slice x.op g.ops.length x.oc) := cell_in hB 2
      have d2 : (w6.alloc (.cells (opC ⟨okind, oclient, oreq, oid, ogen, oocc, odue, ostamp, oepoch, ocron⟩) 31)).drew.cell? ⟨x.lb, 2, none⟩ = some (.slice x.op g.ops.length x.oc) := cell_in ((kv.block _ (lt_in hB)).trans hB) 2
      have c8 : w8.cell? ⟨x.lb, 2, none⟩ = some (.slice x.op g.ops.length x.oc) := cell_in (kb.trans hB) 2
      have f8 : w8.frozen? ⟨x.lb, 2, none⟩ = false := free_in (kb.trans hB) 2
      have s0 := sF.out w6 hblk
      have sB := sF.out (w6.alloc (.cells (opC ⟨okind, oclient, oreq, oid, ogen, oocc, odue, ostamp, oepoch, ocron⟩) 31)).drew ((kv.block _ (lt_in hblk)).trans hblk)
      have sA := sF.out w8 ((km _ (by simp)).trans hblk)
      have sS := sF.out (w8.setCell ⟨x.lb, 2, none⟩ (.slice p' (g.ops.length + 1) cap')) ((heap_setCell_other _ _ _ _ (fun e => h7.out.far _ (by simp) (mem_ownL.2 (.inl e)))).trans ((km _ (by simp)).trans hblk))
      replace hrun := Lib.hid hrun
      clear kb km kv hB hblk
      go_cut [7] from 57 (fun v wc => v = .pointer (some ⟨q, 0, none⟩) ∧ ∃ p' cap', Hid (Lx w0 wc b (applyN s ⟨okind, oclient, oreq, oid, ogen, oocc, odue, ostamp, oepoch, ocron⟩).1 (c + 1) wb now l { x with op := p', oc := cap' } { g with ops := g.ops ++ [⟨okind, oclient, oreq, oid, ogen, oocc, odue, ostamp, oepoch, ocron⟩] } (q :: (w.heap.size + 1) :: w.heap.size :: M) (fun W => W.heap[q]? = some (.cells (tmC (valT s.T oid)) 55) ∧ W.heap[w.heap.size + 1]? = some (.cells (rpC (applyN s ⟨okind, oclient, oreq, oid, ogen, oocc, odue, ostamp, oepoch, ocron⟩).2) 34) ∧ W.heap[w.heap.size]? = some (.cells (opC ⟨okind, oclient, oreq, oid, ogen, oocc, odue, ostamp, oepoch, ocron⟩) 31) ∧ PP W)))
      case first =>
        refine wp_region_noPanic ?_
        refine wp_region_held_drew (S := fun w' => w'.cell? ⟨w.heap.size, 0, none⟩ = some (.int .i64 okind) ∧ w'.cell? ⟨w.heap.size, 1, none⟩ = some (.int .i64 oclient) ∧ w'.cell? ⟨w.heap.size, 2, none⟩ = some (.int .i64 oreq) ∧ w'.cell? ⟨w.heap.size, 3, none⟩ = some (.int .i64 oid) ∧ w'.cell? ⟨w.heap.size, 4, none⟩ = some (.int .i64 ogen) ∧ w'.cell? ⟨w.heap.size, 5, none⟩ = some (.int .i64 oocc) ∧ w'.cell? ⟨w.heap.size, 6, none⟩ = some (.int .i64 odue) ∧ w'.cell? ⟨w.heap.size, 7, none⟩ = some (.int .i64 ostamp) ∧ w'.cell? ⟨w.heap.size, 8, none⟩ = some (.int .i64 oepoch) ∧ w'.cell? ⟨w.heap.size, 9, none⟩ = some (.string ocron)) (by kernel_rfl) ?hSoA12_0 (fun hHeld => ?_)
        case hSoA12_0 => ((try dsimp only); exact s0)
        refine wpAnyH_take (i := 0) (oi := oA12_0) (v := ?voA12_1) rfl (by kernel_rfl) (by kernel_rfl) (by kernel_rfl) (fun _ _ _ h => h) (Or.inl ⟨by rfl, ?yoA12_1⟩) (by assumption) ?roA12_1
        case yoA12_1 => (intro w hSw; (try dsimp only at hSw); unfold oA12_0; go_simp; try with_reducible rfl)
        simp only [oA12_0, Act.put, List.setIfInBounds_toArray, List.set_cons_zero, List.set_cons_succ]
        refine wpAnyH_take (i := 1) (oi := oA12_1) (v := ?voA12_2) rfl (by kernel_rfl) (by kernel_rfl) (by kernel_rfl) (fun _ _ _ h => h) (Or.inl ⟨by rfl, ?yoA12_2⟩) (by assumption) ?roA12_2
        case yoA12_2 => (intro w hSw; (try dsimp only at hSw); unfold oA12_1; go_simp; try with_reducible rfl)
        simp only [oA12_1, Act.put, List.setIfInBounds_toArray, List.set_cons_zero, List.set_cons_succ]
        refine wpAnyH_take (i := 5) (oi := oA12_5) (v := ?voA12_3) rfl (by kernel_rfl) (by kernel_rfl) (by kernel_rfl) (fun _ _ _ h => h) (Or.inl ⟨by rfl, ?yoA12_3⟩) (by assumption) ?roA12_3
        case yoA12_3 => (intro w hSw; (try dsimp only at hSw); unfold oA12_5; go_simp; try with_reducible rfl)
        simp only [oA12_5, Act.put, List.setIfInBounds_toArray, List.set_cons_zero, List.set_cons_succ]
        refine wpAnyH_take (i := 2) (oi := oA12_2) (v := ?voA12_4) rfl (by kernel_rfl) (by kernel_rfl) (by kernel_rfl) (fun _ _ _ h => h) (Or.inl ⟨by rfl, ?yoA12_4⟩) (by assumption) ?roA12_4
        case yoA12_4 => (intro w hSw; (try dsimp only at hSw); unfold oA12_2; go_simp; try with_reducible rfl)
        simp only [oA12_2, Act.put, List.setIfInBounds_toArray, List.set_cons_zero, List.set_cons_succ]
        refine wpAnyH_take (i := 3) (oi := oA12_3) (v := ?voA12_5) rfl (by kernel_rfl) (by kernel_rfl) (by kernel_rfl) (fun _ _ _ h => h) (Or.inl ⟨by rfl, ?yoA12_5⟩) (by assumption) ?roA12_5
        case yoA12_5 => (intro w hSw; (try dsimp only at hSw); unfold oA12_3; go_simp; try with_reducible rfl)
        simp only [oA12_3, Act.put, List.setIfInBounds_toArray, List.set_cons_zero, List.set_cons_succ]
        refine wpAnyH_ready (rs := [4, 6]) (by kernel_rfl) (by simp) ?_
        refine AllReadyH.cons (o := oA12_4) rfl (fun K hK => ?_) ?_
        · clear hHeld
          unfold oA12_4
          go_simp
          refine hK.out _ _ ?hSoA12_6 (fun hHeld => ?_)
          case hSoA12_6 => ((try dsimp only); exact s0)
          clear hK K
          try simp only [Act.put, List.setIfInBounds_toArray, List.set_cons_zero, List.set_cons_succ]
          refine wpAnyH_ready (rs := [6]) (by kernel_rfl) (by simp) ?_
          refine AllReadyH.cons (o := oA12_6) rfl (fun K hK => ?_) ?_
          · clear hHeld
            unfold oA12_6
            go_simp
            refine hK.out _ _ ?hSoA12_7 (fun hHeld => ?_)
            case hSoA12_7 => ((try dsimp only); exact sB)
            clear hK K
            try simp only [Act.put, List.setIfInBounds_toArray, List.set_cons_zero, List.set_cons_succ]
            refine wpAnyH_ready (rs := [7]) (by kernel_rfl) (by simp) ?_
            refine AllReadyH.cons (o := oA12_7) rfl (fun K hK => ?_) ?_
            · clear hHeld
              unfold oA12_7
              refine step_append_st (by rfl) _ _ 22 22 (by rfl) _ _ (by rfl) (by rfl) hrun.out ?_
              refine hK.out _ _ ?hSoA12_8 (fun hHeld => ?_)
              case hSoA12_8 => ((try dsimp only); exact sA)
              clear hK K
              try simp only [Act.put, List.setIfInBounds_toArray, List.set_cons_zero, List.set_cons_succ]
              refine wpAnyH_take (i := 8) (oi := oA12_8) (v := ?voA12_9) rfl (by kernel_rfl) (by kernel_rfl) (by kernel_rfl) (fun _ _ _ h => h) (Or.inl ⟨by rfl, ?yoA12_9⟩) (by assumption) ?roA12_9
              case yoA12_9 => (intro w hSw; (try dsimp only at hSw); unfold oA12_8; go_simp; try with_reducible rfl)
              simp only [oA12_8, Act.put, List.setIfInBounds_toArray, List.set_cons_zero, List.set_cons_succ]
              refine wpAnyH_take (i := 9) (oi := oA12_9) (v := ?voA12_10) rfl (by kernel_rfl) (by kernel_rfl) (by kernel_rfl) (fun _ _ _ h => h) (Or.inl ⟨by rfl, ?yoA12_10⟩) (by assumption) ?roA12_10
              case yoA12_10 => (intro w hSw; (try dsimp only at hSw); unfold oA12_9; go_simp; try with_reducible rfl)
              simp only [oA12_9, Act.put, List.setIfInBounds_toArray, List.set_cons_zero, List.set_cons_succ]
              refine wpAnyH_ready (rs := [10]) (by kernel_rfl) (by simp) ?_
              refine AllReadyH.cons (o := oA12_10) rfl (fun K hK => ?_) ?_
              · clear hHeld
                unfold oA12_10
                go_simp
                refine hK.out _ _ ?hSoA12_11 (fun hHeld => ?_)
                case hSoA12_11 => ((try dsimp only); exact sS)
                clear hK K
                try simp only [Act.put, List.setIfInBounds_toArray, List.set_cons_zero, List.set_cons_succ]
                refine wpAnyH_done (by kernel_rfl) ?_ _
                refine NoPanic.normal ?_
                clear hHeld
                go_wp2_with fail
                go_meet
                exact ⟨rfl, _, _, h9⟩
              exact AllReadyH.nil
            exact AllReadyH.nil
          exact AllReadyH.nil
        refine AllReadyH.cons (o := oA12_6) rfl (fun K hK => ?_) ?_
        · clear hHeld
          unfold oA12_6
          go_simp
          refine hK.out _ _ ?hSoA12_12 (fun hHeld => ?_)
          case hSoA12_12 => ((try dsimp only); exact sB)
          clear hK K
          try simp only [Act.put, List.setIfInBounds_toArray, List.set_cons_zero, List.set_cons_succ]
          refine wpAnyH_ready (rs := [4]) (by kernel_rfl) (by simp) ?_
          refine AllReadyH.cons (o := oA12_4) rfl (fun K hK => ?_) ?_
          · clear hHeld
            unfold oA12_4
            go_simp
            refine hK.out _ _ ?hSoA12_13 (fun hHeld => ?_)
            case hSoA12_13 => ((try dsimp only); exact sB)
            clear hK K
            try simp only [Act.put, List.setIfInBounds_toArray, List.set_cons_zero, List.set_cons_succ]
            refine wpAnyH_ready (rs := [7]) (by kernel_rfl) (by simp) ?_
            refine AllReadyH.cons (o := oA12_7) rfl (fun K hK => ?_) ?_
            · clear hHeld
              unfold oA12_7
              refine step_append_st (by rfl) _ _ 22 22 (by rfl) _ _ (by rfl) (by rfl) hrun.out ?_
              refine hK.out _ _ ?hSoA12_14 (fun hHeld => ?_)
              case hSoA12_14 => ((try dsimp only); exact sA)
              clear hK K
              try simp only [Act.put, List.setIfInBounds_toArray, List.set_cons_zero, List.set_cons_succ]
              refine wpAnyH_take (i := 8) (oi := oA12_8) (v := ?voA12_15) rfl (by kernel_rfl) (by kernel_rfl) (by kernel_rfl) (fun _ _ _ h => h) (Or.inl ⟨by rfl, ?yoA12_15⟩) (by assumption) ?roA12_15
              case yoA12_15 => (intro w hSw; (try dsimp only at hSw); unfold oA12_8; go_simp; try with_reducible rfl)
              simp only [oA12_8, Act.put, List.setIfInBounds_toArray, List.set_cons_zero, List.set_cons_succ]
              refine wpAnyH_take (i := 9) (oi := oA12_9) (v := ?voA12_16) rfl (by kernel_rfl) (by kernel_rfl) (by kernel_rfl) (fun _ _ _ h => h) (Or.inl ⟨by rfl, ?yoA12_16⟩) (by assumption) ?roA12_16
              case yoA12_16 => (intro w hSw; (try dsimp only at hSw); unfold oA12_9; go_simp; try with_reducible rfl)
              simp only [oA12_9, Act.put, List.setIfInBounds_toArray, List.set_cons_zero, List.set_cons_succ]
              refine wpAnyH_ready (rs := [10]) (by kernel_rfl) (by simp) ?_
              refine AllReadyH.cons (o := oA12_10) rfl (fun K hK => ?_) ?_
              · clear hHeld
                unfold oA12_10
                go_simp
                refine hK.out _ _ ?hSoA12_17 (fun hHeld => ?_)
                case hSoA12_17 => ((try dsimp only); exact sS)
                clear hK K
                try simp only [Act.put, List.setIfInBounds_toArray, List.set_cons_zero, List.set_cons_succ]
                refine wpAnyH_done (by kernel_rfl) ?_ _
                refine NoPanic.normal ?_
                clear hHeld
                go_wp2_with fail
                go_meet
                exact ⟨rfl, _, _, h9⟩
              exact AllReadyH.nil
            exact AllReadyH.nil
          exact AllReadyH.nil
        exact AllReadyH.nil
      case rest =>
        obtain ⟨rfl, op', oc', h9b⟩ := hcut
        obtain ⟨w7, hw7⟩ : ∃ x, x = wc := ⟨_, rfl⟩
        subst hw7
        clear h7 h9 sF c2 d2 c8 f8 s0 sB sA sS hrun
        go_upto_region 13 with fail
        obtain ⟨w6, hw6⟩ : ∃ x, x = w7 := ⟨_, rfl⟩
        subst hw6
        have h7 := h9b
        clear h9b
        have sF : Hid (∀ W : World, W.heap[w.heap.size + 1]? = some (.cells (rpC (applyN s ⟨okind, oclient, oreq, oid, ogen, oocc, odue, ostamp, oepoch, ocron⟩).2) 34) → W.cell? ⟨w.heap.size + 1, 0, none⟩ = some (.int .i64 (applyN s ⟨okind, oclient, oreq, oid, ogen, oocc, odue, ostamp, oepoch, ocron⟩).2.err) ∧ W.cell? ⟨w.heap.size + 1, 1, none⟩ = some (.int .i64 (applyN s ⟨okind, oclient, oreq, oid, ogen, oocc, odue, ostamp, oepoch, ocron⟩).2.gen) ∧ W.cell? ⟨w.heap.size + 1, 2, none⟩ = some (.int .i64 (applyN s ⟨okind, oclient, oreq, oid, ogen, oocc, odue, ostamp, oepoch, ocron⟩).2.due)) := fun W e => ⟨cell_in e 0, cell_in e 1, cell_in e 2⟩
        obtain ⟨p', cap', w8, hrun, kb, km, h9⟩ := h7.out.pushRp (applyN s ⟨okind, oclient, oreq, oid, ogen, oocc, odue, ostamp, oepoch, ocron⟩).2 (by show g.rps.length ≤ 100000; omega)
        replace h9 := Lib.hid h9
        have kv : Below w6.heap.size w6 (w6.alloc (.cells (rpC (applyN s ⟨okind, oclient, oreq, oid, ogen, oocc, odue, ostamp, oepoch, ocron⟩).2) 34)) := (Below.refl _ _).alloc (Nat.le_refl _) _
        have hB := h7.out.lp.box
        have hblk := h7.out.pp.2.1
        have c2 : w6.cell? ⟨x.lb, 3, none⟩ = some (.slice x.rp g.rps.length x.rc) := cell_in hB 3
        have d2 : (w6.alloc (.cells (rpC (applyN s ⟨okind, oclient, oreq, oid, ogen, oocc, odue, ostamp, oepoch, ocron⟩).2) 34)).drew.cell? ⟨x.lb, 3, none⟩ = some (.slice x.rp g.rps.length x.rc) := cell_in ((kv.block _ (lt_in hB)).trans hB) 3
        have c8 : w8.cell? ⟨x.lb, 3, none⟩ = some (.slice x.rp g.rps.length x.rc) := cell_in (kb.trans hB) 3
        have f8 : w8.frozen? ⟨x.lb, 3, none⟩ = false := free_in (kb.trans hB) 3
        have s0 := sF.out w6 hblk
        have sB := sF.out (w6.alloc (.cells (rpC (applyN s ⟨okind, oclient, oreq, oid, ogen, oocc, odue, ostamp, oepoch, ocron⟩).2) 34)).drew ((kv.block _ (lt_in hblk)).trans hblk)
        have sA := sF.out w8 ((km _ (by simp)).trans hblk)
        have sS := sF.out (w8.setCell ⟨x.lb, 3, none⟩ (.slice p' (g.rps.length + 1) cap')) ((heap_setCell_other _ _ _ _ (fun e => h7.out.far _ (by simp) (mem_ownL.2 (.inl e)))).trans ((km _ (by simp)).trans hblk))
        replace hrun := Lib.hid hrun
        clear kb km kv hB hblk
        go_cut [7] from 67 (fun v wc => v = .pointer (some ⟨q, 0, none⟩) ∧ ∃ p' cap', Hid (Lx w0 wc b (applyN s ⟨okind, oclient, oreq, oid, ogen, oocc, odue, ostamp, oepoch, ocron⟩).1 (c + 1) wb now l { x with op := op', oc := oc', rp := p', rc := cap' } { g with ops := g.ops ++ [⟨okind, oclient, oreq, oid, ogen, oocc, odue, ostamp, oepoch, ocron⟩], rps := g.rps ++ [(applyN s ⟨okind, oclient, oreq, oid, ogen, oocc, odue, ostamp, oepoch, ocron⟩).2] } (q :: (w.heap.size + 1) :: w.heap.size :: M) (fun W => W.heap[q]? = some (.cells (tmC (valT s.T oid)) 55) ∧ W.heap[w.heap.size + 1]? = some (.cells (rpC (applyN s ⟨okind, oclient, oreq, oid, ogen, oocc, odue, ostamp, oepoch, ocron⟩).2) 34) ∧ W.heap[w.heap.size]? = some (.cells (opC ⟨okind, oclient, oreq, oid, ogen, oocc, odue, ostamp, oepoch, ocron⟩) 31) ∧ PP W)))
        case first =>
          refine wp_region_noPanic ?_
          refine wp_region_held_drew (S := fun w' => w'.cell? ⟨w.heap.size + 1, 0, none⟩ = some (.int .i64 (applyN s ⟨okind, oclient, oreq, oid, ogen, oocc, odue, ostamp, oepoch, ocron⟩).2.err) ∧ w'.cell? ⟨w.heap.size + 1, 1, none⟩ = some (.int .i64 (applyN s ⟨okind, oclient, oreq, oid, ogen, oocc, odue, ostamp, oepoch, ocron⟩).2.gen) ∧ w'.cell? ⟨w.heap.size + 1, 2, none⟩ = some (.int .i64 (applyN s ⟨okind, oclient, oreq, oid, ogen, oocc, odue, ostamp, oepoch, ocron⟩).2.due)) (by kernel_rfl) ?hSoA13_0 (fun hHeld => ?_)
          case hSoA13_0 => ((try dsimp only); exact s0)
          refine wpAnyH_take (i := 0) (oi := oA13_0) (v := ?voA13_1) rfl (by kernel_rfl) (by kernel_rfl) (by kernel_rfl) (fun _ _ _ h => h) (Or.inl ⟨by rfl, ?yoA13_1⟩) (by assumption) ?roA13_1
          case yoA13_1 => (intro w hSw; (try dsimp only at hSw); unfold oA13_0; go_simp; try with_reducible rfl)
          simp only [oA13_0, Act.put, List.setIfInBounds_toArray, List.set_cons_zero, List.set_cons_succ]
          refine wpAnyH_take (i := 1) (oi := oA13_1) (v := ?voA13_2) rfl (by kernel_rfl) (by kernel_rfl) (by kernel_rfl) (fun _ _ _ h => h) (Or.inl ⟨by rfl, ?yoA13_2⟩) (by assumption) ?roA13_2
          case yoA13_2 => (intro w hSw; (try dsimp only at hSw); unfold oA13_1; go_simp; try with_reducible rfl)
          simp only [oA13_1, Act.put, List.setIfInBounds_toArray, List.set_cons_zero, List.set_cons_succ]
          refine wpAnyH_take (i := 5) (oi := oA13_5) (v := ?voA13_3) rfl (by kernel_rfl) (by kernel_rfl) (by kernel_rfl) (fun _ _ _ h => h) (Or.inl ⟨by rfl, ?yoA13_3⟩) (by assumption) ?roA13_3
          case yoA13_3 => (intro w hSw; (try dsimp only at hSw); unfold oA13_5; go_simp; try with_reducible rfl)
          simp only [oA13_5, Act.put, List.setIfInBounds_toArray, List.set_cons_zero, List.set_cons_succ]
          refine wpAnyH_take (i := 2) (oi := oA13_2) (v := ?voA13_4) rfl (by kernel_rfl) (by kernel_rfl) (by kernel_rfl) (fun _ _ _ h => h) (Or.inl ⟨by rfl, ?yoA13_4⟩) (by assumption) ?roA13_4
          case yoA13_4 => (intro w hSw; (try dsimp only at hSw); unfold oA13_2; go_simp; try with_reducible rfl)
          simp only [oA13_2, Act.put, List.setIfInBounds_toArray, List.set_cons_zero, List.set_cons_succ]
          refine wpAnyH_take (i := 3) (oi := oA13_3) (v := ?voA13_5) rfl (by kernel_rfl) (by kernel_rfl) (by kernel_rfl) (fun _ _ _ h => h) (Or.inl ⟨by rfl, ?yoA13_5⟩) (by assumption) ?roA13_5
          case yoA13_5 => (intro w hSw; (try dsimp only at hSw); unfold oA13_3; go_simp; try with_reducible rfl)
          simp only [oA13_3, Act.put, List.setIfInBounds_toArray, List.set_cons_zero, List.set_cons_succ]
          refine wpAnyH_ready (rs := [4, 6]) (by kernel_rfl) (by simp) ?_
          refine AllReadyH.cons (o := oA13_4) rfl (fun K hK => ?_) ?_
          · clear hHeld
            unfold oA13_4
            go_simp
            refine hK.out _ _ ?hSoA13_6 (fun hHeld => ?_)
            case hSoA13_6 => ((try dsimp only); exact s0)
            clear hK K
            try simp only [Act.put, List.setIfInBounds_toArray, List.set_cons_zero, List.set_cons_succ]
            refine wpAnyH_ready (rs := [6]) (by kernel_rfl) (by simp) ?_
            refine AllReadyH.cons (o := oA13_6) rfl (fun K hK => ?_) ?_
            · clear hHeld
              unfold oA13_6
              go_simp
              refine hK.out _ _ ?hSoA13_7 (fun hHeld => ?_)
              case hSoA13_7 => ((try dsimp only); exact sB)
              clear hK K
              try simp only [Act.put, List.setIfInBounds_toArray, List.set_cons_zero, List.set_cons_succ]
              refine wpAnyH_ready (rs := [7]) (by kernel_rfl) (by simp) ?_
              refine AllReadyH.cons (o := oA13_7) rfl (fun K hK => ?_) ?_
              · clear hHeld
                unfold oA13_7
                refine step_append_st (by rfl) _ _ 38 38 (by rfl) _ _ (by rfl) (by rfl) hrun.out ?_
                refine hK.out _ _ ?hSoA13_8 (fun hHeld => ?_)
                case hSoA13_8 => ((try dsimp only); exact sA)
                clear hK K
                try simp only [Act.put, List.setIfInBounds_toArray, List.set_cons_zero, List.set_cons_succ]
                refine wpAnyH_take (i := 8) (oi := oA13_8) (v := ?voA13_9) rfl (by kernel_rfl) (by kernel_rfl) (by kernel_rfl) (fun _ _ _ h => h) (Or.inl ⟨by rfl, ?yoA13_9⟩) (by assumption) ?roA13_9
                case yoA13_9 => (intro w hSw; (try dsimp only at hSw); unfold oA13_8; go_simp; try with_reducible rfl)
                simp only [oA13_8, Act.put, List.setIfInBounds_toArray, List.set_cons_zero, List.set_cons_succ]
                refine wpAnyH_take (i := 9) (oi := oA13_9) (v := ?voA13_10) rfl (by kernel_rfl) (by kernel_rfl) (by kernel_rfl) (fun _ _ _ h => h) (Or.inl ⟨by rfl, ?yoA13_10⟩) (by assumption) ?roA13_10
                case yoA13_10 => (intro w hSw; (try dsimp only at hSw); unfold oA13_9; go_simp; try with_reducible rfl)
                simp only [oA13_9, Act.put, List.setIfInBounds_toArray, List.set_cons_zero, List.set_cons_succ]
                refine wpAnyH_ready (rs := [10]) (by kernel_rfl) (by simp) ?_
                refine AllReadyH.cons (o := oA13_10) rfl (fun K hK => ?_) ?_
                · clear hHeld
                  unfold oA13_10
                  go_simp
                  refine hK.out _ _ ?hSoA13_11 (fun hHeld => ?_)
                  case hSoA13_11 => ((try dsimp only); exact sS)
                  clear hK K
                  try simp only [Act.put, List.setIfInBounds_toArray, List.set_cons_zero, List.set_cons_succ]
                  refine wpAnyH_done (by kernel_rfl) ?_ _
                  refine NoPanic.normal ?_
                  clear hHeld
                  go_wp2_with fail
                  go_meet
                  exact ⟨rfl, _, _, h9⟩
                exact AllReadyH.nil
              exact AllReadyH.nil
            exact AllReadyH.nil
          refine AllReadyH.cons (o := oA13_6) rfl (fun K hK => ?_) ?_
          · clear hHeld
            unfold oA13_6
            go_simp
            refine hK.out _ _ ?hSoA13_12 (fun hHeld => ?_)
            case hSoA13_12 => ((try dsimp only); exact sB)
            clear hK K
            try simp only [Act.put, List.setIfInBounds_toArray, List.set_cons_zero, List.set_cons_succ]
            refine wpAnyH_ready (rs := [4]) (by kernel_rfl) (by simp) ?_
            refine AllReadyH.cons (o := oA13_4) rfl (fun K hK => ?_) ?_
            · clear hHeld
              unfold oA13_4
              go_simp
              refine hK.out _ _ ?hSoA13_13 (fun hHeld => ?_)
              case hSoA13_13 => ((try dsimp only); exact sB)
              clear hK K
              try simp only [Act.put, List.setIfInBounds_toArray, List.set_cons_zero, List.set_cons_succ]
              refine wpAnyH_ready (rs := [7]) (by kernel_rfl) (by simp) ?_
              refine AllReadyH.cons (o := oA13_7) rfl (fun K hK => ?_) ?_
              · clear hHeld
                unfold oA13_7
                refine step_append_st (by rfl) _ _ 38 38 (by rfl) _ _ (by rfl) (by rfl) hrun.out ?_
                refine hK.out _ _ ?hSoA13_14 (fun hHeld => ?_)
                case hSoA13_14 => ((try dsimp only); exact sA)
                clear hK K
                try simp only [Act.put, List.setIfInBounds_toArray, List.set_cons_zero, List.set_cons_succ]
                refine wpAnyH_take (i := 8) (oi := oA13_8) (v := ?voA13_15) rfl (by kernel_rfl) (by kernel_rfl) (by kernel_rfl) (fun _ _ _ h => h) (Or.inl ⟨by rfl, ?yoA13_15⟩) (by assumption) ?roA13_15
                case yoA13_15 => (intro w hSw; (try dsimp only at hSw); unfold oA13_8; go_simp; try with_reducible rfl)
                simp only [oA13_8, Act.put, List.setIfInBounds_toArray, List.set_cons_zero, List.set_cons_succ]
                refine wpAnyH_take (i := 9) (oi := oA13_9) (v := ?voA13_16) rfl (by kernel_rfl) (by kernel_rfl) (by kernel_rfl) (fun _ _ _ h => h) (Or.inl ⟨by rfl, ?yoA13_16⟩) (by assumption) ?roA13_16
                case yoA13_16 => (intro w hSw; (try dsimp only at hSw); unfold oA13_9; go_simp; try with_reducible rfl)
                simp only [oA13_9, Act.put, List.setIfInBounds_toArray, List.set_cons_zero, List.set_cons_succ]
                refine wpAnyH_ready (rs := [10]) (by kernel_rfl) (by simp) ?_
                refine AllReadyH.cons (o := oA13_10) rfl (fun K hK => ?_) ?_
                · clear hHeld
                  unfold oA13_10
                  go_simp
                  refine hK.out _ _ ?hSoA13_17 (fun hHeld => ?_)
                  case hSoA13_17 => ((try dsimp only); exact sS)
                  clear hK K
                  try simp only [Act.put, List.setIfInBounds_toArray, List.set_cons_zero, List.set_cons_succ]
                  refine wpAnyH_done (by kernel_rfl) ?_ _
                  refine NoPanic.normal ?_
                  clear hHeld
                  go_wp2_with fail
                  go_meet
                  exact ⟨rfl, _, _, h9⟩
                exact AllReadyH.nil
              exact AllReadyH.nil
            exact AllReadyH.nil
          exact AllReadyH.nil
        case rest =>
          obtain ⟨rfl, rp', rc', h9b⟩ := hcut
          obtain ⟨w8, hw8⟩ : ∃ x, x = wc := ⟨_, rfl⟩
          subst hw8
          clear h7 h9 c2 d2 c8 f8 s0 sB sA sS hrun
          obtain ⟨y0, y1, y2, y3, y4, y5, y6, y7, y8, y9⟩ := sO.out _ h9b.out.pp.2.2.1
          obtain ⟨r0, r1, r2⟩ := sF.out _ h9b.out.pp.2.1
          have t0 := cell_in h9b.out.pp.1 0
          have t1 := cell_in h9b.out.pp.1 1
          have t2 := cell_in h9b.out.pp.1 2
          have t3 := cell_in h9b.out.pp.1 3
          have t4 := cell_in h9b.out.pp.1 4
          clear r0 r1 r2 t0 t1 t2 t3 t4
          go_wp2_with fail
          refine (h9b.out.keepReq ⟨okind, oclient, oreq, oid, ogen, oocc, odue, ostamp, oepoch, ocron⟩ (by simp; omega) ho.client ho.req).mono ?_
          rintro e wk1 ⟨rfl, j1⟩
          replace j1 := Lib.hid j1
          clear y0 y1 y2 y3 y4 y5 y6 y7 y8 y9 h9b
          obtain ⟨y0, y1, y2, y3, y4, y5, y6, y7, y8, y9⟩ := sO.out _ j1.out.pp.2.2.1
          obtain ⟨r0, r1, r2⟩ := sF.out _ j1.out.pp.2.1
          have t0 := cell_in j1.out.pp.1 0
          have t1 := cell_in j1.out.pp.1 1
          have t2 := cell_in j1.out.pp.1 2
          have t3 := cell_in j1.out.pp.1 3
          have t4 := cell_in j1.out.pp.1 4
          clear r0 r1 r2 y0 y1 y2 y4 y5 y6 y7 y8 y9
          go_wp2_with fail
          refine (keepVer_any j1.out hl ht0 hoth.out hd.out hidd (by simp; omega) (by show (g.ver oid).length ≤ 100000; omega)).mono ?_
          rintro e wk2 ⟨rfl, vt', l', hw2, j2⟩
          replace hw2 := Lib.hid hw2
          replace j2 := Lib.hid j2
          clear y3 t0 t1 t2 t3 t4 j1
          obtain ⟨y0, y1, y2, y3, y4, y5, y6, y7, y8, y9⟩ := sO.out _ j2.out.pp.2.2.1
          obtain ⟨r0, r1, r2⟩ := sF.out _ j2.out.pp.2.1
          have t0 := cell_in j2.out.pp.1 0
          have t1 := cell_in j2.out.pp.1 1
          have t2 := cell_in j2.out.pp.1 2
          have t3 := cell_in j2.out.pp.1 3
          have t4 := cell_in j2.out.pp.1 4
          clear t0 t2 t3 t4
          go_wp2_with fail
          refine (j2.out.keepFire ⟨okind, oclient, oreq, oid, ogen, oocc, odue, ostamp, oepoch, ocron⟩ (applyN s ⟨okind, oclient, oreq, oid, ogen, oocc, odue, ostamp, oepoch, ocron⟩).2 (valT s.T oid).client (by rw [(keepV_ops _ _ _ _).1]; simp; omega) (by rw [(keepV_ops _ _ _ _).2.2.2]; show g.fires.length ≤ 100000; omega)).mono ?_
          rintro e wk3 ⟨rfl, fp', fc', j3⟩
          replace j3 := Lib.hid j3
          clear y0 y1 y2 y3 y4 y5 y6 y7 y8 y9 r0 r1 r2 t1 j2
          obtain ⟨r0, r1, r2⟩ := sF.out _ j3.out.pp.2.1
          have c2 : wk3.cell? ⟨x.lb, 2, none⟩ = some (.slice op' (g.ops.length + 1) oc') := by
            have := cell_in j3.out.lp.box 2
            simpa [keepV_ops] using this
          go_upto_region 17 with fail
          refine wp_region_noPanic ?_
          refine wp_region_held_drew (S := fun w' => w'.cell? ⟨x.lb, 2, none⟩ = some (.slice op' (g.ops.length + 1) oc') ∧ w'.cell? ⟨w.heap.size + 1, 0, none⟩ = some (.int .i64 (applyN s ⟨okind, oclient, oreq, oid, ogen, oocc, odue, ostamp, oepoch, ocron⟩).2.err) ∧ w'.cell? ⟨w.heap.size + 1, 1, none⟩ = some (.int .i64 (applyN s ⟨okind, oclient, oreq, oid, ogen, oocc, odue, ostamp, oepoch, ocron⟩).2.gen) ∧ w'.cell? ⟨w.heap.size + 1, 2, none⟩ = some (.int .i64 (applyN s ⟨okind, oclient, oreq, oid, ogen, oocc, odue, ostamp, oepoch, ocron⟩).2.due)) (by kernel_rfl) ?hSoA17_0 (fun hHeld => ?_)
          case hSoA17_0 => ((try dsimp only); exact ⟨c2, r0, r1, r2⟩)
          refine wpAnyH_take (i := 0) (oi := oA17_0) (v := ?voA17_1) rfl (by kernel_rfl) (by kernel_rfl) (by kernel_rfl) (fun _ _ _ h => h) (Or.inl ⟨by rfl, ?yoA17_1⟩) (by assumption) ?roA17_1
          case yoA17_1 => (intro w hSw; (try dsimp only at hSw); unfold oA17_0; go_simp; try with_reducible rfl)
          simp only [oA17_0, Act.put, List.setIfInBounds_toArray, List.set_cons_zero, List.set_cons_succ]
          refine wpAnyH_take (i := 5) (oi := oA17_5) (v := ?voA17_2) rfl (by kernel_rfl) (by kernel_rfl) (by kernel_rfl) (fun _ _ _ h => h) (Or.inl ⟨by rfl, ?yoA17_2⟩) (by assumption) ?roA17_2
          case yoA17_2 => (intro w hSw; (try dsimp only at hSw); unfold oA17_5; go_simp; try with_reducible rfl)
          simp only [oA17_5, Act.put, List.setIfInBounds_toArray, List.set_cons_zero, List.set_cons_succ]
          refine wpAnyH_take (i := 1) (oi := oA17_1) (v := ?voA17_3) rfl (by kernel_rfl) (by kernel_rfl) (by kernel_rfl) (fun _ _ _ h => h) (Or.inl ⟨by rfl, ?yoA17_3⟩) (by assumption) ?roA17_3
          case yoA17_3 => (intro w hSw; (try dsimp only at hSw); unfold oA17_1; go_simp; try with_reducible rfl)
          simp only [oA17_1, Act.put, List.setIfInBounds_toArray, List.set_cons_zero, List.set_cons_succ]
          refine wpAnyH_take (i := 2) (oi := oA17_2) (v := ?voA17_4) rfl (by kernel_rfl) (by kernel_rfl) (by kernel_rfl) (fun _ _ _ h => h) (Or.inl ⟨by rfl, ?yoA17_4⟩) (by assumption) ?roA17_4
          case yoA17_4 => (intro w hSw; (try dsimp only at hSw); unfold oA17_2; go_simp; try with_reducible rfl)
          simp only [oA17_2, Act.put, List.setIfInBounds_toArray, List.set_cons_zero, List.set_cons_succ]
          refine wpAnyH_take (i := 3) (oi := oA17_3) (v := ?voA17_5) rfl (by kernel_rfl) (by kernel_rfl) (by kernel_rfl) (fun _ _ _ h => h) (Or.inl ⟨by rfl, ?yoA17_5⟩) (by assumption) ?roA17_5
          case yoA17_5 => (intro w hSw; (try dsimp only at hSw); unfold oA17_3; go_simp; try with_reducible rfl)
          simp only [oA17_3, Act.put, List.setIfInBounds_toArray, List.set_cons_zero, List.set_cons_succ]
          refine wpAnyH_take (i := 4) (oi := oA17_4) (v := ?voA17_6) rfl (by kernel_rfl) (by kernel_rfl) (by kernel_rfl) (fun _ _ _ h => h) (Or.inl ⟨by rfl, ?yoA17_6⟩) (by assumption) ?roA17_6
          case yoA17_6 => (intro w hSw; (try dsimp only at hSw); unfold oA17_4; go_simp; try with_reducible rfl)
          simp only [oA17_4, Act.put, List.setIfInBounds_toArray, List.set_cons_zero, List.set_cons_succ]
          refine wpAnyH_take (i := 6) (oi := oA17_6) (v := ?voA17_7) rfl (by kernel_rfl) (by kernel_rfl) (by kernel_rfl) (fun _ _ _ h => h) (Or.inl ⟨by rfl, ?yoA17_7⟩) (by assumption) ?roA17_7
          case yoA17_7 => (intro w hSw; (try dsimp only at hSw); unfold oA17_6; go_simp; try with_reducible rfl)
          simp only [oA17_6, Act.put, List.setIfInBounds_toArray, List.set_cons_zero, List.set_cons_succ]
          refine wpAnyH_ready (rs := [7]) (by kernel_rfl) (by simp) ?_
          refine AllReadyH.cons (o := oA17_7) rfl (fun K hK => ?_) ?_
          · clear hHeld
            unfold oA17_7
            refine step_store_row (by rfl) 34 _ _ (by rfl) _ (rpC (applyN s ⟨okind, oclient, oreq, oid, ogen, oocc, odue, ostamp, oepoch, ocron⟩).2) (by rfl) (by rfl) 34 _ j3.out.drew.pp.2.1 (by kernel_rfl) (by rfl) (rpC_all _) ?_
            have j4 := Lib.hid (j3.out.drew.setRow2 (stab_cons _ _ st0.out) hfq.out (by omega) (rpC (applyN s ⟨okind, oclient, oreq, oid, ogen, oocc, odue, ostamp, oepoch, ocron⟩).2))
            obtain ⟨u0, u1, u2⟩ := sF.out _ j4.out.pp.2.1
            have u3 : (wk3.drew.setRow (w.heap.size + 1) (rpC (applyN s ⟨okind, oclient, oreq, oid, ogen, oocc, odue, ostamp, oepoch, ocron⟩).2)).cell? ⟨x.lb, 2, none⟩ = some (.slice op' (g.ops.length + 1) oc') := by
              have := cell_in j4.out.lp.box 2
              simpa [keepV_ops] using this
            refine hK.out _ _ ?hSoA17_8 (fun hHeld => ?_)
            case hSoA17_8 => ((try dsimp only); exact ⟨u3, u0, u1, u2⟩)
            clear hK K
            try simp only [Act.put, List.setIfInBounds_toArray, List.set_cons_zero, List.set_cons_succ]
            refine wpAnyH_take (i := 8) (oi := oA17_8) (v := ?voA17_9) rfl (by kernel_rfl) (by kernel_rfl) (by kernel_rfl) (fun _ _ _ h => h) (Or.inl ⟨by rfl, ?yoA17_9⟩) (by assumption) ?roA17_9
            case yoA17_9 => (intro w hSw; (try dsimp only at hSw); unfold oA17_8; go_simp; try with_reducible rfl)
            simp only [oA17_8, Act.put, List.setIfInBounds_toArray, List.set_cons_zero, List.set_cons_succ]
            refine wpAnyH_done (by kernel_rfl) ?_ _
            refine NoPanic.normal ?_
            clear hHeld
            clear u3 c2 r0 r1 r2
            go_wp2_with fail
            refine bodyPost_ret (v := .tuple #[.int .i64 ((g.ops.length + 1 : Nat) : Int), rpV (applyN s ⟨okind, oclient, oreq, oid, ogen, oocc, odue, ostamp, oepoch, ocron⟩).2, .int .i64 0]) ?_ rfl ?_
            · rw [results_tmp_cell_tmp rfl]
              go_simp
              try exact ⟨rfl, rfl, rfl⟩
            · exact ⟨rfl, { x with op := op', oc := oc', rp := rp', rc := rc', vt := vt', fp := fp', fc := fc' }, l', rfl, hw2.out, ((j4.out.pop (stab_cons _ _ (stab_cons _ _ st0.out))).pop (stab_cons _ _ st0.out)).pop st0.out⟩
          exact AllReadyH.nil
end Go.Proofs.YtoihekgmomjhpaaGreatDoor
