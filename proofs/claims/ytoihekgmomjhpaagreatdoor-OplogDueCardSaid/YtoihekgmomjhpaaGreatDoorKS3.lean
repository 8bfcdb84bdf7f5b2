/-
  Texts laid into one (a claim has 60 files at most): SSet, SAsk, SDone.
-/
import Derived.Test.YtoihekgmomjhpaaGreatDoorKS2
import Derived.Deep.RegionHeld3
import Derived.BigQuiet
/-
  Layer 8: set.
-/
set_option linter.unusedVariables false
namespace Go.Proofs.YtoihekgmomjhpaaGreatDoor
open Go.RowKit Crn Nxt Ste
set_option maxRecDepth 100000
section
variable {w w' : World} {b : Nat} {s : St} {cl : List Int} {x : Px} {c : Nat}
abbrev opO (o : OpN) : Obj := .cells (opC o) 31
abbrev rpO : Obj := .cells #[.int .i64 0, .int .i64 0, .int .i64 0] 34
/-- Ten cells. -/
theorem op_cells {W : World} {g : Nat} {o : OpN} (h : W.heap[g]? = some (opO o)) : W.cell? ⟨g, 0, none⟩ = some (.int .i64 o.kind) ∧ W.cell? ⟨g, 1, none⟩ = some (.int .i64 o.client) ∧ W.cell? ⟨g, 2, none⟩ = some (.int .i64 o.req) ∧ W.cell? ⟨g, 3, none⟩ = some (.int .i64 o.id) ∧ W.cell? ⟨g, 4, none⟩ = some (.int .i64 o.gen) ∧
    W.cell? ⟨g, 5, none⟩ = some (.int .i64 o.occ) ∧ W.cell? ⟨g, 6, none⟩ = some (.int .i64 o.due) ∧ W.cell? ⟨g, 7, none⟩ = some (.int .i64 o.stamp) ∧ W.cell? ⟨g, 8, none⟩ = some (.int .i64 o.epoch) ∧ W.cell? ⟨g, 9, none⟩ = some (.string o.cron) :=
  ⟨cell_in h 0, cell_in h 1, cell_in h 2, cell_in h 3, cell_in h 4, cell_in h 5, cell_in h 6, cell_in h 7, cell_in h 8, cell_in h 9⟩
theorem rp_cells {W : World} {g : Nat} {v0 v1 v2 : Value} (h : W.heap[g]? = some (.cells #[v0, v1, v2] 34)) : W.cell? ⟨g, 0, none⟩ = some v0 ∧ W.cell? ⟨g, 1, none⟩ = some v1 ∧ W.cell? ⟨g, 2, none⟩ = some v2 ∧ W.frozen? ⟨g, 0, none⟩ = false ∧ W.frozen? ⟨g, 1, none⟩ = false ∧ W.frozen? ⟨g, 2, none⟩ = false :=
  ⟨cell_in h 0, cell_in h 1, cell_in h 2, free_in h 0, free_in h 1, free_in h 2⟩
theorem Aft.store {W1 : World} {s' : St} {cl' : List Int} {x' : Px} {c' r : Nat} (A : Aft W1 b x w' s' cl' x' c') (k : Below w.heap.size w W1) (hlt : ∀ i, i ∈ Go.Proofs.YtoihekgmomjhpaaGreatDoor.own x b → i < w.heap.size) (hr : w.heap.size ≤ r) (hr1 : r < W1.heap.size) (v0 v1 v2 : Value) :
    Aft w b x (((w'.setCell ⟨r, 0, none⟩ v0).setCell ⟨r, 1, none⟩ v1).setCell ⟨r, 2, none⟩ v2) s' cl' x' c' := by
  have A0 := A.before k
  have kr : Kl [r] w' (((w'.setCell ⟨r, 0, none⟩ v0).setCell ⟨r, 1, none⟩ v1).setCell ⟨r, 2, none⟩ v2) := (((Kl.refl _ _).setCell (by simp) 0 v0).setCell (by simp) 1 v1).setCell (by simp) 2 v2
  refine ⟨A.sv.kept kr (fun i hi ho => ?_), ⟨kr.os.trans A0.kept.os, kr.tape.trans A0.kept.tape, kr.output.trans A0.kept.output, Nat.le_trans A0.kept.size kr.size, fun i hi hn => (kr.block i (Nat.lt_of_lt_of_le hi A0.kept.size) (by simp only [List.mem_singleton]; omega)).trans (A0.kept.block i hi hn)⟩, A0.own, A0.kl⟩
  simp only [List.mem_singleton] at hi
  subst hi
  rcases A.own i ho with g | g
  · have := hlt i g; omega
  · omega
/-- The boxes of a call: the operation's, and the reply's. -/
structure Bx (w W : World) (o : OpN) : Prop where
  bel : Below w.heap.size w W
  op : W.heap[w.heap.size]? = some (opO o)
  rp : W.heap[w.heap.size + 1]? = some rpO
theorem Bx.start (w : World) (o : OpN) : Bx w ((w.alloc (opO o)).alloc rpO) o := by
  refine ⟨((Below.refl _ _).alloc (Nat.le_refl _) _).alloc (by simp) _, heap_alloc2_old w _ _, ?_⟩
  exact Go.heap_alloc2_new w _ _
theorem Bx.lt {W : World} {o : OpN} (h : Bx w W o) : w.heap.size + 1 < W.heap.size := lt_in h.rp
theorem Bx.below {W W2 : World} {o : OpN} (h : Bx w W o) (k : Below W.heap.size W W2) : Bx w W2 o := by
  have h1 := h.lt
  exact ⟨h.bel.trans (k.mono h.bel.size), (k.block _ (by omega)).trans h.op, (k.block _ h1).trans h.rp⟩
theorem Bx.aft {W W2 : World} {o : OpN} {s' : St} {cl' : List Int} {x' : Px} {c' : Nat} (h : Bx w W o) (hlt : ∀ i, i ∈ Go.Proofs.YtoihekgmomjhpaaGreatDoor.own x b → i < w.heap.size) (A : Aft W b x W2 s' cl' x' c') : W2.heap[w.heap.size]? = some (opO o) ∧ W2.heap[w.heap.size + 1]? = some rpO := by
  have h1 := h.lt
  exact ⟨(A.kept.block _ (by omega) (fun g => by have := hlt _ g; omega)).trans h.op, (A.kept.block _ h1 (fun g => by have := hlt _ g; omega)).trans h.rp⟩
theorem set_A {s : St} {o : OpN} (h : settableB o = false) : setN s o = (s, ⟨1, 0, 0⟩) := by unfold setN; rw [if_pos h]
theorem set_B {s : St} {o : OpN} (h : settableB o = true) (h2 : o.cron.size ≠ 0 ∧ badB o.cron = true) : setN s o = (s, ⟨7, 0, 0⟩) := by unfold setN; rw [if_neg (by rw [h]; simp), if_pos h2]
theorem set_C {s : St} {o : OpN} (h : settableB o = true) (h2 : ¬ (o.cron.size ≠ 0 ∧ badB o.cron = true)) (h3 : find o.id s.T = none ∧ s.room ≤ s.T.length) : setN s o = (s, ⟨5, 0, 0⟩) := by unfold setN; rw [if_neg (by rw [h]; simp), if_neg h2, if_pos h3]
theorem set_D {s : St} {o : OpN} (h : settableB o = true) (h2 : ¬ (o.cron.size ≠ 0 ∧ badB o.cron = true)) (h3 : ¬ (find o.id s.T = none ∧ s.room ≤ s.T.length)) :
    setN s o = ({ s with gens := s.gens + 1, T := put ⟨o.id, o.client, (s.gens + 1 : Nat), dueN o, o.cron⟩ (away o.id s.T) }, ⟨0, (s.gens + 1 : Nat), dueN o⟩) := by unfold setN; rw [if_neg (by rw [h]; simp), if_neg h2, if_neg h3]
set_option maxHeartbeats 2000000 in
/-- What a set does that is refused ahead of its map. -/
theorem set_refused (h : Sv w b s cl x c) (tb : Tab w) (nt : NTab w) (hc : c ≤ 900000) (o : OpN) (ho : OpOk o) (hs : settableB o = false ∨ (settableB o = true ∧ o.cron.size ≠ 0 ∧ badB o.cron = true)) :
    Calls Tryz.prog 83 #[.pointer (some ⟨b, 0, none⟩), opV o] w fun e w' => e = .returned (rpV (setN s o).2) ∧ ∃ x', Aft w b x w' (setN s o).1 cl x' (c + 1) := by
  have hlt : ∀ i, i ∈ own x b → i < w.heap.size := fun i hi => (h.lt i hi).1
  have B0 := Bx.start w o
  have cS := Lib.hid (fun W => settable_any o W)
  have cR := Lib.hid refusal_any
  have A1 := Aft.ofBelow h B0.bel
  have cD : Hid (∀ W, Below w.heap.size w W → Calls Tryz.prog 114 #[.pointer (some ⟨b, 0, none⟩), opV o] W fun e w' => e = .returned (.tuple #[.int .i64 (dueR o), .int .i64 (dueE o)]) ∧ ∃ x', Aft W b x w' s cl x' (c + 1)) := fun W k => firstDue_any (h.below k) (tb.below k) (nt.below k) hc o ho
  have hrefl : Hid (∀ W, Below w.heap.size w W → Aft W b x W s cl x c) := fun W k => Aft.refl (h.below k)
  replace hlt := Lib.hid hlt
  clear A1
  replace B0 := Lib.hid B0
  clear h tb nt ho
  rcases hs with hs | ⟨hs, hz, hb⟩
  · rw [set_A hs]
    rw [hs] at cS
    replace hs := Lib.hid hs
    obtain ⟨okind, oclient, oreq, oid, ogen, oocc, odue, ostamp, oepoch, ocron⟩ := o
    simp only [opV, opC, opO, rpO] at *
    go_enter Tryz.func83, Tryz.ntmps83
    go_wp2_with fail
    refine (cS.out _).mono ?_
    rintro e w2 ⟨rfl, k2⟩
    have B2 := B0.out.below k2
    clear B0 k2
    go_wp2_with fail
    refine (cR.out 1 _).mono ?_
    rintro e w3 ⟨rfl, k3⟩
    have B3 := B2.below k3
    obtain ⟨q0, q1, q2, z0, z1, z2⟩ := rp_cells B3.rp
    replace B3 := Lib.hid B3
    clear B2 k3
    go_wp2_with fail
    refine bodyPost_ret (v := rpV ⟨1, 0, 0⟩) ?_ rfl ?_
    · rw [results_cellA rfl]
      go_simp
    · exact ⟨rfl, x, (Aft.store (hrefl.out _ B3.out.bel) B3.out.bel hlt.out (by omega) B3.out.lt _ _ _).more (Nat.le_succ _)⟩
  · rw [set_B hs ⟨hz, hb⟩]
    rw [hs] at cS
    have e7 : dueE o = 7 := by unfold dueE; rw [if_pos ⟨hz, hb⟩]
    rw [e7] at cD
    clear e7
    replace hs := Lib.hid hs
    replace hz := Lib.hid hz
    replace hb := Lib.hid hb
    generalize dueR o = D at *
    obtain ⟨okind, oclient, oreq, oid, ogen, oocc, odue, ostamp, oepoch, ocron⟩ := o
    simp only [opV, opC, opO, rpO] at *
    go_enter Tryz.func83, Tryz.ntmps83
    go_wp2_with fail
    refine (cS.out _).mono ?_
    rintro e w2 ⟨rfl, k2⟩
    have B2 := B0.out.below k2
    obtain ⟨p0, p1, p2, p3, p4, p5, p6, p7, p8, p9⟩ := op_cells B2.op
    replace B2 := Lib.hid B2
    clear B0 k2
    go_wp2_with fail
    refine (cD.out _ B2.out.bel).mono ?_
    rintro e w3 ⟨rfl, x3, A3⟩
    clear p0 p1 p2 p3 p4 p5 p6 p7 p8 p9
    have C3 := Lib.hid (B2.out.aft hlt.out A3)
    replace A3 := Lib.hid A3
    go_wp2_with fail
    refine (cR.out 7 _).mono ?_
    rintro e w4 ⟨rfl, k4⟩
    obtain ⟨q0, q1, q2, z0, z1, z2⟩ := rp_cells ((k4.block _ (lt_in C3.out.2)).trans C3.out.2)
    have A4 := Lib.hid (A3.out.below k4)
    clear C3 A3 k4
    go_wp2_with fail
    refine bodyPost_ret (v := rpV ⟨7, 0, 0⟩) ?_ rfl ?_
    · rw [results_cellA rfl]
      go_simp
    · exact ⟨rfl, x3, Aft.store A4.out B2.out.bel hlt.out (by omega) B2.out.lt _ _ _⟩
theorem dueE_ok {o : OpN} (h : ¬ (o.cron.size ≠ 0 ∧ badB o.cron = true)) : dueR o = dueN o ∧ dueE o = 0 := by
  unfold dueR dueE
  rw [if_neg h, if_neg h]
  exact ⟨rfl, rfl⟩
/-- A world in which a drawn region begins, and what it reads of the service. -/
structure Rd (w W : World) (b : Nat) (s : St) (x : Px) (o : OpN) : Prop where
  c0 : W.cell? ⟨b, 0, none⟩ = some (.int .i64 (s.room : Int))
  c1 : W.cell? ⟨b, 1, none⟩ = some (.int .i64 (s.gens : Int))
  c2 : W.cell? ⟨b, 2, none⟩ = some (.map (some x.tb))
  p1 : W.cell? ⟨w.heap.size, 1, none⟩ = some (.int .i64 o.client)
  p3 : W.cell? ⟨w.heap.size, 3, none⟩ = some (.int .i64 o.id)
  p9 : W.cell? ⟨w.heap.size, 9, none⟩ = some (.string o.cron)
  lk : (Instr.lookup mt (.map (some x.tb)) (.int .i64 o.id) true).run Tryz.prog W = .ok (.tuple #[tmV (valT s.T o.id), .bool (hasT s.T o.id)]) W
  ln : ∀ ty, (Builtin.len_ #[mt] ty #[.map (some x.tb)]).run Tryz.prog W = .ok (.int .i64 (s.T.length : Int)) W
theorem Sv.rd {W : World} (h : Sv W b s cl x c) {o : OpN} (ho : OpOk o) (hop : W.heap[w.heap.size]? = some (opO o)) : Rd w W b s x o :=
  ⟨h.c0, h.c1, h.c2, (op_cells hop).2.1, (op_cells hop).2.2.2.1, (op_cells hop).2.2.2.2.2.2.2.2.2, (h.lookT ho.id rfl).1, fun ty => by have := h.tm.len mapT ty; rw [List.length_map, h.tp.length_eq] at this; exact this⟩
theorem Rd.all {W : World} {o : OpN} (h : Rd w W b s x o) : W.cell? ⟨b, 2, none⟩ = some (.map (some x.tb)) ∧ W.cell? ⟨w.heap.size, 3, none⟩ = some (.int .i64 o.id) ∧ (Instr.lookup mt (.map (some x.tb)) (.int .i64 o.id) true).run Tryz.prog W = .ok (.tuple #[tmV (valT s.T o.id), .bool (hasT s.T o.id)]) W := ⟨h.c2, h.p3, h.lk⟩
set_option maxHeartbeats 4000000 in
/-- What a set does that finds no room. -/
theorem set_full (h : Sv w b s cl x c) (tb : Tab w) (nt : NTab w) (hc : c ≤ 900000) (o : OpN) (ho : OpOk o) (hs : settableB o = true) (hB : ¬ (o.cron.size ≠ 0 ∧ badB o.cron = true)) (hF : find o.id s.T = none ∧ s.room ≤ s.T.length) :
    Calls Tryz.prog 83 #[.pointer (some ⟨b, 0, none⟩), opV o] w fun e w' => e = .returned (rpV (setN s o).2) ∧ ∃ x', Aft w b x w' (setN s o).1 cl x' (c + 1) := by
  rw [set_C hs hB hF]
  have hlt : ∀ i, i ∈ own x b → i < w.heap.size := fun i hi => (h.lt i hi).1
  have B0 := Lib.hid (Bx.start w o)
  have cS := Lib.hid (fun W => settable_any o W)
  rw [hs] at cS
  have cR := Lib.hid refusal_any
  have cD : Hid (∀ W, Below w.heap.size w W → Calls Tryz.prog 114 #[.pointer (some ⟨b, 0, none⟩), opV o] W fun e w' => e = .returned (.tuple #[.int .i64 (dueR o), .int .i64 (dueE o)]) ∧ ∃ x', Aft W b x w' s cl x' (c + 1)) := fun W k => firstDue_any (h.below k) (tb.below k) (nt.below k) hc o ho
  rw [(dueE_ok hB).2] at cD
  have hq : hasT s.T o.id = false := by unfold hasT; rw [hF.1]; rfl
  have hr : decide ((s.room : Int) ≤ (s.T.length : Int)) = true := by simpa using hF.2
  have hr' : decide (s.room ≤ s.T.length) = true := by simpa using hF.2
  have hrd : Hid (∀ W x' c', Sv W b s cl x' c' → W.heap[w.heap.size]? = some (opO o) → Rd w W b s x' o) := fun W x' c' g1 g2 => g1.rd ho g2
  replace hlt := Lib.hid hlt
  replace hs := Lib.hid hs
  replace hB := Lib.hid hB
  replace hF := Lib.hid hF
  clear h tb nt ho
  generalize dueR o = D at *
  obtain ⟨okind, oclient, oreq, oid, ogen, oocc, odue, ostamp, oepoch, ocron⟩ := o
  simp only [opV, opC, opO, rpO] at *
  go_enter Tryz.func83, Tryz.ntmps83
  go_wp2_with fail
  refine (cS.out _).mono ?_
  rintro e w2 ⟨rfl, k2⟩
  have B2 := B0.out.below k2
  obtain ⟨p0, p1, p2, p3, p4, p5, p6, p7, p8, p9⟩ := op_cells B2.op
  replace B2 := Lib.hid B2
  clear B0 k2 cS
  go_wp2_with fail
  refine (cD.out _ B2.out.bel).mono ?_
  rintro e w3 ⟨rfl, x3, A3⟩
  clear p0 p1 p2 p3 p4 p5 p6 p7 p8 p9 cD
  have C3 := Lib.hid (B2.out.aft hlt.out A3)
  replace A3 := Lib.hid A3
  have HR : Hid (∀ W, Below w3.heap.size w3 W → Rd w W b s x3 ⟨okind, oclient, oreq, oid, ogen, oocc, odue, ostamp, oepoch, ocron⟩) := fun W k => hrd.out W x3 _ (A3.out.sv.below k) ((k.block _ (lt_in C3.out.1)).trans C3.out.1)
  clear hrd
  go_wp2_with fail
  obtain ⟨c2, p3, lk⟩ := (HR.out w3.drew (Below.refl _ _).drew).all
  go_region_held3 (fun w' => w'.cell? ⟨b, 2, none⟩ = some (.map (some x3.tb)) ∧ w'.cell? ⟨w.heap.size, 3, none⟩ = some (.int .i64 oid) ∧ (Instr.lookup mt (.map (some x3.tb)) (.int .i64 oid) true).run Tryz.prog w' = .ok (.tuple #[tmV (valT s.T oid), .bool (hasT s.T oid)]) w')
    (first | exact ⟨c2, p3, lk⟩ | exact (HR.out _ (((Below.refl w3.heap.size w3).alloc (Nat.le_refl _) _).drew)).all) (fail)
  all_goals
    have k5 := (Below.refl w3.heap.size w3).alloc (Nat.le_refl _) (.cells #[.int .i64 (valT s.T oid).id, .int .i64 (valT s.T oid).client, .int .i64 (valT s.T oid).gen, .int .i64 (valT s.T oid).due, .string (valT s.T oid).cron] 55)
    replace k5 := k5.drew
    have A5 := Lib.hid (A3.out.below k5)
    have rp5 := Lib.hid ((k5.block _ (lt_in C3.out.2)).trans C3.out.2)
    have HR5 : Hid (∀ n, Rd w ((w3.alloc (.cells #[.int .i64 (valT s.T oid).id, .int .i64 (valT s.T oid).client, .int .i64 (valT s.T oid).gen, .int .i64 (valT s.T oid).due, .string (valT s.T oid).cron] 55)).drew.drewN n) b s x3 ⟨okind, oclient, oreq, oid, ogen, oocc, odue, ostamp, oepoch, ocron⟩) := fun n => HR.out _ (below_drewN k5 n)
    clear k5 HR c2 p3 lk
    generalize (w3.alloc (.cells #[.int .i64 (valT s.T oid).id, .int .i64 (valT s.T oid).client, .int .i64 (valT s.T oid).gen, .int .i64 (valT s.T oid).due, .string (valT s.T oid).cron] 55)).drew = w5 at *
    generalize w3.heap.size = g3 at *
    have c0 : w5.cell? ⟨b, 0, none⟩ = some (.int .i64 (s.room : Int)) := (HR5.out 0).c0
    have c2 : w5.cell? ⟨b, 2, none⟩ = some (.map (some x3.tb)) := (HR5.out 0).c2
    have ln : ∀ n ty, (Builtin.len_ #[mt] ty #[.map (some x3.tb)]).run Tryz.prog (w5.drewN n) = .ok (.int .i64 (s.T.length : Int)) (w5.drewN n) := fun n => (HR5.out n).ln
    clear HR5
    go_wp2_with fail
    go_quiet (fail)
    have A6 := Lib.hid (A5.out.below (below_drewN (Below.refl _ _) nq))
    have rp6 : Hid ((w5.drewN nq).heap[w.heap.size + 1]? = some rpO) := rp5.out
    clear c0 c2 ln A5 rp5
    generalize w5.drewN nq = w6 at *
    go_wp2_with fail
    refine (cR.out 5 _).mono ?_
    rintro e w7 ⟨rfl, k7⟩
    obtain ⟨q0, q1, q2, z0, z1, z2⟩ := rp_cells ((k7.block _ (lt_in rp6.out)).trans rp6.out)
    have A7 := Lib.hid (A6.out.below k7)
    clear A6 rp6 k7
    go_wp2_with fail
    refine bodyPost_ret (v := rpV ⟨5, 0, 0⟩) ?_ rfl ?_
    · rw [results_cellA rfl]
      go_simp
    · exact ⟨rfl, x3, Aft.store A7.out B2.out.bel hlt.out (by omega) B2.out.lt _ _ _⟩
/-- The map's entries behind a set. -/
theorem Sv.putT {W : World} (h : Sv W b s cl x c) {s' : St} {t : Tm} (hid : i64 t.id) (hT : s'.T = put t (away t.id s.T)) (hr : s'.room = s.room) (hg : s'.gens = s.gens) (ok : Ok s') :
    ∃ w', (Instr.mapUpdate mt (.map (some x.tb)) (.int .i64 t.id) (tmV t)).run Tryz.prog W = .ok () w' ∧ w'.heap.size = W.heap.size ∧ W.grownBy w' (some x.tb) ∧ ∃ x', Aft W b x w' s' cl x' c ∧ x'.tb = x.tb := by
  obtain ⟨k1, k2⟩ := h.tkeys
  cases hf : find t.id s.T with
  | none =>
    have hn : ∀ p ∈ x.tl.map tmP, p.1 ≠ t.id := fun p hp => by
      obtain ⟨u, hu, rfl⟩ := List.mem_map.1 hp
      exact find_none hf u (h.tp.mem_iff.1 hu)
    obtain ⟨w', r, v, g, z⟩ := vinsert mapT h.tm k1 (tmV t) hid hn
    refine ⟨w', r, z, g, _, h.timers (tl' := x.tl ++ [t]) (by rw [List.map_append]; exact v) g (by rw [hT]; exact perm_new h.tp h.ok.up hf) hr hg ok, rfl⟩
  | some u =>
    obtain ⟨h1, h2⟩ := find_some hf
    have hp : (t.id, tmV u) ∈ x.tl.map tmP := List.mem_map.2 ⟨u, h.tp.mem_iff.2 h1, by unfold tmP; rw [h2]⟩
    obtain ⟨w', r, v, g, z⟩ := vupdate mapT h.tm k1 k2 hp (tmV t)
    rw [tmP_map] at v
    exact ⟨w', r, z, g, _, h.timers v g (by rw [hT]; exact perm_old h.tp h.ok.up ⟨u, h1, h2⟩) hr hg ok, rfl⟩
end
end Go.Proofs.YtoihekgmomjhpaaGreatDoor

/-
  Layer 8: a client's request: ask, where it does nothing.
-/
set_option linter.unusedVariables false
namespace Go.Proofs.YtoihekgmomjhpaaGreatDoor
open Go.RowKit Crn Nxt Ste
set_option maxRecDepth 100000
section
variable {w w' : World} {b : Nat} {s : St} {cl : List Int} {x : Px} {c : Nat}
abbrev clOf (s : St) : List Int := s.K.map (·.client)
theorem hasK_some {K : List Kn} {id : Int} (h : hasK K id = true) : known id K = some (valK K id) := by
  unfold hasK at h
  unfold valK
  cases hf : known id K with
  | none => rw [hf] at h; cases h
  | some t => rfl
theorem hasK_none {K : List Kn} {id : Int} (h : hasK K id = false) : known id K = none := by
  unfold hasK at h
  cases hf : known id K with
  | none => rfl
  | some t => rw [hf] at h; cases h
theorem ask_old {s : St} {o : OpN} (h : hasK s.K o.client = true) (h2 : o.req < (valK s.K o.client).req) : askN s o = (s, ⟨11, 0, 0⟩) := by
  unfold askN
  rw [hasK_some h]
  show (if o.req < (valK s.K o.client).req then _ else _) = _
  rw [if_pos h2]
theorem ask_same {s : St} {o : OpN} (h : hasK s.K o.client = true) (h2 : ¬ o.req < (valK s.K o.client).req) (h3 : (valK s.K o.client).req = o.req) : askN s o = (s, (valK s.K o.client).rp) := by
  unfold askN
  rw [hasK_some h]
  show (if o.req < (valK s.K o.client).req then _ else if (valK s.K o.client).req = o.req then _ else _) = _
  rw [if_neg h2, if_pos h3]
theorem ask_next {s : St} {o : OpN} (h : hasK s.K o.client = true) (h2 : ¬ o.req < (valK s.K o.client).req) (h3 : ¬ (valK s.K o.client).req = o.req) :
    askN s o = ({ (changeN s o).1 with K := renew ⟨o.client, o.req, (changeN s o).2⟩ s.K }, (changeN s o).2) := by
  unfold askN
  rw [hasK_some h]
  show (if o.req < (valK s.K o.client).req then _ else if (valK s.K o.client).req = o.req then _ else _) = _
  rw [if_neg h2, if_neg h3]
theorem ask_full {s : St} {o : OpN} (h : hasK s.K o.client = false) (h2 : 3 ≤ s.K.length) : askN s o = (s, ⟨8, 0, 0⟩) := by
  unfold askN
  rw [hasK_none h]
  show (if 3 ≤ s.K.length then _ else _) = _
  rw [if_pos h2]
theorem ask_first {s : St} {o : OpN} (h : hasK s.K o.client = false) (h2 : ¬ 3 ≤ s.K.length) :
    askN s o = ({ (changeN s o).1 with K := s.K ++ [⟨o.client, o.req, (changeN s o).2⟩] }, (changeN s o).2) := by
  unfold askN
  rw [hasK_none h]
  show (if 3 ≤ s.K.length then _ else _) = _
  rw [if_neg h2]
set_option maxHeartbeats 4000000 in
/-- A request that does nothing. -/
theorem ask_early (h : Sv w b s (clOf s) x c) (hk : x.kl.Perm s.K) (o : OpN) (ho : OpOk o) (r : Rp)
    (hr : (hasK s.K o.client = true ∧ o.req < (valK s.K o.client).req ∧ r = ⟨11, 0, 0⟩) ∨ (hasK s.K o.client = true ∧ ¬ o.req < (valK s.K o.client).req ∧ (valK s.K o.client).req = o.req ∧ r = (valK s.K o.client).rp) ∨ (hasK s.K o.client = false ∧ 3 ≤ s.K.length ∧ r = ⟨8, 0, 0⟩)) :
    Calls Tryz.prog 50 #[.pointer (some ⟨b, 0, none⟩), opV o] w fun e w' => e = .returned (rpV r) ∧ Aft w b x w' s (clOf s) x c := by
  have hlt := Lib.hid (fun i hi => (h.lt i hi).1)
  have B0 := Lib.hid (Bx.start w o)
  have cR := Lib.hid refusal_any
  have hS : Hid (∀ W, Below w.heap.size w W → Sv W b s (clOf s) x c) := fun W k => h.below k
  have HL : Hid (∀ W, Below w.heap.size w W → W.heap[w.heap.size]? = some (opO o) → W.cell? ⟨b, 4, none⟩ = some (.map (some x.lb)) ∧ W.cell? ⟨w.heap.size, 1, none⟩ = some (.int .i64 o.client) ∧ (Instr.lookup ml (.map (some x.lb)) (.int .i64 o.client) true).run Tryz.prog W = .ok (.tuple #[knV (valK s.K o.client), .bool (hasK s.K o.client)]) W) := fun W k hop => ⟨(h.below k).c4, (op_cells hop).2.1, (h.below k).lookK hk ho.client rfl⟩
  have hlen : ((clOf s).length : Int) = (s.K.length : Int) := by simp [clOf]
  generalize clOf s = CL at *
  replace hlen := Lib.hid hlen
  clear h hk ho
  obtain ⟨okind, oclient, oreq, oid, ogen, oocc, odue, ostamp, oepoch, ocron⟩ := o
  simp only [opV, opC, opO, rpO] at *
  have start : Hid True := Lib.hid trivial
  go_enter Tryz.func50, Tryz.ntmps50
  go_wp2_with fail
  obtain ⟨w1, hw1⟩ : ∃ w1, (w.alloc (.cells #[.int .i64 okind, .int .i64 oclient, .int .i64 oreq, .int .i64 oid, .int .i64 ogen, .int .i64 oocc, .int .i64 odue, .int .i64 ostamp, .int .i64 oepoch, .string ocron] 31)).alloc (.cells #[.int .i64 0, .int .i64 0, .int .i64 0] 34) = w1 := ⟨_, rfl⟩
  rw [hw1] at B0 ⊢
  replace hw1 := True.intro
  obtain ⟨c4, p1, lk⟩ := HL.out w1.drew B0.out.bel.drew B0.out.op
  have HK : Hid (∀ o : Obj, (w1.alloc o).drew.cell? ⟨b, 4, none⟩ = some (.map (some x.lb)) ∧ (w1.alloc o).drew.cell? ⟨w.heap.size, 1, none⟩ = some (.int .i64 oclient) ∧ (Instr.lookup ml (.map (some x.lb)) (.int .i64 oclient) true).run Tryz.prog (w1.alloc o).drew = .ok (.tuple #[knV (valK s.K oclient), .bool (hasK s.K oclient)]) (w1.alloc o).drew) := fun o => by
    have B3 := B0.out.below ((Below.refl w1.heap.size w1).alloc (Nat.le_refl _) o).drew
    exact HL.out _ B3.bel B3.op
  clear HL
  generalize valK s.K oclient = k at *
  generalize hasK s.K oclient = q at *
  obtain ⟨kc, kreq, kerr, kgen, kdue⟩ := k
  simp only at *
  go_region_held3 (fun w' => w'.cell? ⟨b, 4, none⟩ = some (.map (some x.lb)) ∧ w'.cell? ⟨w.heap.size, 1, none⟩ = some (.int .i64 oclient) ∧ (Instr.lookup ml (.map (some x.lb)) (.int .i64 oclient) true).run Tryz.prog w' = .ok (.tuple #[.agg #[.int .i64 kreq, .int .i64 kerr, .int .i64 kgen, .int .i64 kdue], .bool q]) w')
    (first | exact ⟨c4, p1, lk⟩ | exact HK.out _) (fail)
  all_goals
    clear c4 p1 lk HK
    have k2 := ((Below.refl w1.heap.size w1).alloc (Nat.le_refl _) (.cells #[.int .i64 kreq, .int .i64 kerr, .int .i64 kgen, .int .i64 kdue] 150)).drew
    have B2 := Lib.hid (B0.out.below k2)
    have L5 : Hid ((w1.alloc (.cells #[.int .i64 kreq, .int .i64 kerr, .int .i64 kgen, .int .i64 kdue] 150)).drew.heap[w1.heap.size]? = some (.cells #[.int .i64 kreq, .int .i64 kerr, .int .i64 kgen, .int .i64 kdue] 150)) := Go.heap_alloc_new w1 _
    clear k2
    generalize (w1.alloc (.cells #[.int .i64 kreq, .int .i64 kerr, .int .i64 kgen, .int .i64 kdue] 150)).drew = w2 at *
    generalize w1.heap.size = g5 at *
    have m0 : w2.cell? ⟨g5, 0, none⟩ = some (.int .i64 kreq) := cell_in L5.out 0
    have m1 : w2.cell? ⟨g5, 1, none⟩ = some (.int .i64 kerr) := cell_in L5.out 1
    have m2 : w2.cell? ⟨g5, 2, none⟩ = some (.int .i64 kgen) := cell_in L5.out 2
    have m3 : w2.cell? ⟨g5, 3, none⟩ = some (.int .i64 kdue) := cell_in L5.out 3
    have p2 := (op_cells B2.out.op).2.2.1
    rcases hr with ⟨rfl, h2, rfl⟩ | ⟨rfl, h2, h3, rfl⟩ | ⟨rfl, h2, rfl⟩
    · have e1 : decide (oreq < kreq) = true := by simpa using h2
      replace h2 := Lib.hid h2
      go_wp2_with fail
      refine (cR.out 11 _).mono ?_
      rintro e w3 ⟨rfl, k3⟩
      have B3 := B2.out.below k3
      obtain ⟨q0, q1, q2, z0, z1, z2⟩ := rp_cells B3.rp
      have A3 := Lib.hid (Aft.refl (hS.out _ B3.bel))
      replace B3 := Lib.hid B3
      clear B2 k3 m0 m1 m2 m3 p2
      go_wp2_with fail
      refine bodyPost_ret (v := rpV ⟨11, 0, 0⟩) ?_ rfl ?_
      · rw [results_cellA rfl]
        go_simp
      · exact ⟨rfl, Aft.store A3.out B3.out.bel hlt.out (by omega) B3.out.lt _ _ _⟩
    · have e1 : decide (oreq < kreq) = false := by simpa using h2
      have e2 : (kreq == oreq) = true := by simpa using h3
      replace h2 := Lib.hid h2
      replace h3 := Lib.hid h3
      obtain ⟨q0, q1, q2, z0, z1, z2⟩ := rp_cells B2.out.rp
      have A3 := Lib.hid (Aft.refl (hS.out _ B2.out.bel))
      go_wp2_with fail
      refine bodyPost_ret (v := rpV ⟨kerr, kgen, kdue⟩) ?_ rfl ?_
      · rw [results_cellA rfl]
        go_simp
      · exact ⟨rfl, Aft.store A3.out B2.out.bel hlt.out (by omega) B2.out.lt _ _ _⟩
    · have c3 := (hS.out _ B2.out.bel).c3
      have e1 : decide (3 ≤ (CL.length : Int)) = true := by simp only [decide_eq_true_eq]; rw [hlen.out]; omega
      have e2 : decide (3 ≤ CL.length) = true := by have := of_decide_eq_true e1; exact decide_eq_true (by omega)
      replace h2 := Lib.hid h2
      go_wp2_with fail
      refine (cR.out 8 _).mono ?_
      rintro e w3 ⟨rfl, k3⟩
      have B3 := B2.out.below k3
      obtain ⟨q0, q1, q2, z0, z1, z2⟩ := rp_cells B3.rp
      have A3 := Lib.hid (Aft.refl (hS.out _ B3.bel))
      replace B3 := Lib.hid B3
      clear B2 k3 m0 m1 m2 m3 p2
      go_wp2_with fail
      refine bodyPost_ret (v := rpV ⟨8, 0, 0⟩) ?_ rfl ?_
      · rw [results_cellA rfl]
        go_simp
      · exact ⟨rfl, Aft.store A3.out B3.out.bel hlt.out (by omega) B3.out.lt _ _ _⟩
end
end Go.Proofs.YtoihekgmomjhpaaGreatDoor

/-
  Layer 8: a set that is done.
-/
set_option linter.unusedVariables false
namespace Go.Proofs.YtoihekgmomjhpaaGreatDoor
open Go.RowKit Crn Nxt Ste
set_option maxRecDepth 100000
section
variable {w w' : World} {b : Nat} {s : St} {cl : List Int} {x : Px} {c : Nat}
/-- What the drawn region of a set reads. -/
structure Rs (w W : World) (b g : Nat) (x : Px) (o : OpN) : Prop where
  c1 : W.cell? ⟨b, 1, none⟩ = some (.int .i64 ((g : Int) + 1))
  c2 : W.cell? ⟨b, 2, none⟩ = some (.map (some x.tb))
  p1 : W.cell? ⟨w.heap.size, 1, none⟩ = some (.int .i64 o.client)
  p3 : W.cell? ⟨w.heap.size, 3, none⟩ = some (.int .i64 o.id)
  p9 : W.cell? ⟨w.heap.size, 9, none⟩ = some (.string o.cron)
theorem Rs.all {W : World} {g : Nat} {o : OpN} (h : Rs w W b g x o) : W.cell? ⟨b, 1, none⟩ = some (.int .i64 ((g : Int) + 1)) ∧ W.cell? ⟨b, 2, none⟩ = some (.map (some x.tb)) ∧ W.cell? ⟨w.heap.size, 1, none⟩ = some (.int .i64 o.client) ∧ W.cell? ⟨w.heap.size, 3, none⟩ = some (.int .i64 o.id) ∧ W.cell? ⟨w.heap.size, 9, none⟩ = some (.string o.cron) :=
  ⟨h.c1, h.c2, h.p1, h.p3, h.p9⟩
theorem Sv.rs {W : World} {s' : St} {g : Nat} (h : Sv W b s' cl x c) (hg : s'.gens = g + 1) {o : OpN} (hop : W.heap[w.heap.size]? = some (opO o)) : Rs w W b g x o :=
  ⟨by have := h.c1; rw [hg] at this; exact this, h.c2, (op_cells hop).2.1, (op_cells hop).2.2.2.1, (op_cells hop).2.2.2.2.2.2.2.2.2⟩
set_option maxHeartbeats 4000000 in
/-- What a set does. -/
theorem set_done (h : Sv w b s cl x c) (tb : Tab w) (nt : NTab w) (hc : c ≤ 900000) (o : OpN) (ho : OpOk o) (hs : settableB o = true) (hB : ¬ (o.cron.size ≠ 0 ∧ badB o.cron = true)) (hF : ¬ (find o.id s.T = none ∧ s.room ≤ s.T.length)) :
    Calls Tryz.prog 83 #[.pointer (some ⟨b, 0, none⟩), opV o] w fun e w' => e = .returned (rpV (setN s o).2) ∧ ∃ x', Aft w b x w' (setN s o).1 cl x' (c + 1) := by
  rw [set_D hs hB hF]
  have hlt : ∀ i, i ∈ own x b → i < w.heap.size := fun i hi => (h.lt i hi).1
  have B0 := Lib.hid (Bx.start w o)
  have cS := Lib.hid (fun W => settable_any o W)
  rw [hs] at cS
  have cR := Lib.hid refusal_any
  have cD : Hid (∀ W, Below w.heap.size w W → Calls Tryz.prog 114 #[.pointer (some ⟨b, 0, none⟩), opV o] W fun e w' => e = .returned (.tuple #[.int .i64 (dueR o), .int .i64 (dueE o)]) ∧ ∃ x', Aft W b x w' s cl x' (c + 1)) := fun W k => firstDue_any (h.below k) (tb.below k) (nt.below k) hc o ho
  rw [(dueE_ok hB).1, (dueE_ok hB).2] at cD
  have hq : hasT s.T o.id = false → decide ((s.room : Int) ≤ (s.T.length : Int)) = false ∧ decide (s.room ≤ s.T.length) = false := fun e => by
    have hf : find o.id s.T = none := by
      unfold hasT at e
      cases hf : find o.id s.T with
      | none => rfl
      | some t => rw [hf] at e; cases e
    have : ¬ s.room ≤ s.T.length := fun g => hF ⟨hf, g⟩
    exact ⟨by simpa using this, by simpa using this⟩
  have hg0 := h.ok.gens
  have hg1 := h.gc
  have hgi : (s.gens : Int) ≤ 1000000 := by omega
  have cC := Lib.hid (fun W => clone_any o.cron W (by have := ho.cron; omega))
  have hch := set_chg h.ok ho
  rw [set_D hs hB hF] at hch
  have hok : Hid (Ok { s with gens := s.gens + 1, T := put ⟨o.id, o.client, (s.gens + 1 : Nat), dueN o, o.cron⟩ (away o.id s.T) }) := hch.ok h.ok (by show s.gens + 1 ≤ 1000000; omega)
  replace hch := Lib.hid hch
  have hup := Lib.hid h.ok.up
  have hid64 := Lib.hid ho.id
  have hrd : Hid (∀ W x' c', Sv W b s cl x' c' → W.heap[w.heap.size]? = some (opO o) → Rd w W b s x' o) := fun W x' c' g1 g2 => g1.rd ho g2
  replace hlt := Lib.hid hlt
  replace hs := Lib.hid hs
  replace hB := Lib.hid hB
  replace hF := Lib.hid hF
  clear h tb nt ho
  generalize dueN o = D at *
  obtain ⟨okind, oclient, oreq, oid, ogen, oocc, odue, ostamp, oepoch, ocron⟩ := o
  simp only [opV, opC, opO, rpO] at *
  go_enter Tryz.func83, Tryz.ntmps83
  go_wp2_with fail
  refine (cS.out _).mono ?_
  rintro e w2 ⟨rfl, k2⟩
  have B2 := B0.out.below k2
  obtain ⟨p0, p1, p2, p3, p4, p5, p6, p7, p8, p9⟩ := op_cells B2.op
  replace B2 := Lib.hid B2
  clear B0 k2 cS
  go_wp2_with fail
  refine (cD.out _ B2.out.bel).mono ?_
  rintro e w3 ⟨rfl, x3, A3⟩
  clear p0 p1 p2 p3 p4 p5 p6 p7 p8 p9 cD
  have C3 := Lib.hid (B2.out.aft hlt.out A3)
  replace A3 := Lib.hid A3
  have HR : Hid (∀ W, Below w3.heap.size w3 W → Rd w W b s x3 ⟨okind, oclient, oreq, oid, ogen, oocc, odue, ostamp, oepoch, ocron⟩) := fun W k => hrd.out W x3 _ (A3.out.sv.below k) ((k.block _ (lt_in C3.out.1)).trans C3.out.1)
  clear hrd
  replace hch := True.intro
  go_wp2_with fail
  obtain ⟨c2, p3, lk⟩ := (HR.out w3.drew (Below.refl _ _).drew).all
  go_region_held3 (fun w' => w'.cell? ⟨b, 2, none⟩ = some (.map (some x3.tb)) ∧ w'.cell? ⟨w.heap.size, 3, none⟩ = some (.int .i64 oid) ∧ (Instr.lookup mt (.map (some x3.tb)) (.int .i64 oid) true).run Tryz.prog w' = .ok (.tuple #[tmV (valT s.T oid), .bool (hasT s.T oid)]) w')
    (first | exact ⟨c2, p3, lk⟩ | exact (HR.out _ (((Below.refl w3.heap.size w3).alloc (Nat.le_refl _) _).drew)).all) (fail)
  all_goals
    have k5 := (Below.refl w3.heap.size w3).alloc (Nat.le_refl _) (.cells #[.int .i64 (valT s.T oid).id, .int .i64 (valT s.T oid).client, .int .i64 (valT s.T oid).gen, .int .i64 (valT s.T oid).due, .string (valT s.T oid).cron] 55)
    replace k5 := k5.drew
    have A5 := Lib.hid (A3.out.below k5)
    have rp5 := Lib.hid ((k5.block _ (lt_in C3.out.2)).trans C3.out.2)
    have op5 := Lib.hid ((k5.block _ (lt_in C3.out.1)).trans C3.out.1)
    have HR5 : Hid (∀ n, Rd w ((w3.alloc (.cells #[.int .i64 (valT s.T oid).id, .int .i64 (valT s.T oid).client, .int .i64 (valT s.T oid).gen, .int .i64 (valT s.T oid).due, .string (valT s.T oid).cron] 55)).drew.drewN n) b s x3 ⟨okind, oclient, oreq, oid, ogen, oocc, odue, ostamp, oepoch, ocron⟩) := fun n => HR.out _ (below_drewN k5 n)
    clear k5 HR c2 p3 lk
    generalize (w3.alloc (.cells #[.int .i64 (valT s.T oid).id, .int .i64 (valT s.T oid).client, .int .i64 (valT s.T oid).gen, .int .i64 (valT s.T oid).due, .string (valT s.T oid).cron] 55)).drew = w5 at *
    generalize w3.heap.size = g3 at *
    have c0 : w5.cell? ⟨b, 0, none⟩ = some (.int .i64 (s.room : Int)) := (HR5.out 0).c0
    have c2 : w5.cell? ⟨b, 2, none⟩ = some (.map (some x3.tb)) := (HR5.out 0).c2
    have ln : ∀ n ty, (Builtin.len_ #[mt] ty #[.map (some x3.tb)]).run Tryz.prog (w5.drewN n) = .ok (.int .i64 (s.T.length : Int)) (w5.drewN n) := fun n => (HR5.out n).ln
    clear HR5
    generalize valT s.T oid = vt at *
    generalize hasT s.T oid = q at *
    cases q
    case false => 
      obtain ⟨hr, hr'⟩ := hq rfl
      clear hq
      go_wp2_with fail
      go_quiet (fail)
      have A6 := Lib.hid (A5.out.below (below_drewN (Below.refl _ _) nq))
      have rp6 : Hid ((w5.drewN nq).heap[w.heap.size + 1]? = some rpO) := rp5.out
      have op6 : Hid ((w5.drewN nq).heap[w.heap.size]? = some (opO ⟨okind, oclient, oreq, oid, ogen, oocc, odue, ostamp, oepoch, ocron⟩)) := op5.out
      clear c0 c2 ln A5 rp5 op5 A3 C3
      generalize w5.drewN nq = w6 at *
      have hbl := hlt.out b (by simp [own])
      have A8 : Hid (Aft w2 b x (w6.setCell ⟨b, 1, none⟩ (.int .i64 ((s.gens : Int) + 1))) { s with gens := s.gens + 1 } cl x3 (c + 1)) := A6.out.mono' (A6.out.sv.again (by omega) (by omega))
      have rp8 : Hid ((w6.setCell ⟨b, 1, none⟩ (.int .i64 ((s.gens : Int) + 1))).heap[w.heap.size + 1]? = some rpO) := (heap_setCell_other _ _ _ _ (show w.heap.size + 1 ≠ b by omega)).trans rp6.out
      have op8 : Hid ((w6.setCell ⟨b, 1, none⟩ (.int .i64 ((s.gens : Int) + 1))).heap[w.heap.size]? = some (opO ⟨okind, oclient, oreq, oid, ogen, oocc, odue, ostamp, oepoch, ocron⟩)) := (heap_setCell_other _ _ _ _ (show w.heap.size ≠ b by omega)).trans op6.out
      have c1 := A6.out.sv.c1
      have f1 := A6.out.sv.fz 1
      replace hbl := Lib.hid hbl
      replace hg0 := Lib.hid hg0
      replace hg1 := Lib.hid hg1
      replace hc := Lib.hid hc
      clear A6 rp6 op6
      go_wp2_with fail
      clear c1 f1
      generalize w6.setCell ⟨b, 1, none⟩ (.int .i64 ((s.gens : Int) + 1)) = w8 at *
      have HS : Hid (∀ W, Below w8.heap.size w8 W → Rs w W b s.gens x3 ⟨okind, oclient, oreq, oid, ogen, oocc, odue, ostamp, oepoch, ocron⟩) := fun W k => (A8.out.sv.below k).rs rfl ((k.block _ (lt_in op8.out)).trans op8.out)
      have HP : Hid (∀ W, Below w8.heap.size w8 W → ∃ w', (Instr.mapUpdate mt (.map (some x3.tb)) (.int .i64 oid) (.agg #[.int .i64 oid, .int .i64 oclient, .int .i64 ((s.gens : Int) + 1), .int .i64 D, .string ocron])).run Tryz.prog W = .ok () w' ∧ Rs w w' b s.gens x3 ⟨okind, oclient, oreq, oid, ogen, oocc, odue, ostamp, oepoch, ocron⟩ ∧ w'.heap[w.heap.size + 1]? = some rpO ∧ ∃ x', Aft w2 b x w' { s with gens := s.gens + 1, T := put ⟨oid, oclient, (s.gens + 1 : Nat), D, ocron⟩ (away oid s.T) } cl x' (c + 1)) := fun W k => by
        have A9 := A8.out.below k
        obtain ⟨w', r, z, g, x', A, hx⟩ := A9.sv.putT (t := ⟨oid, oclient, (s.gens + 1 : Nat), D, ocron⟩) (s' := { s with gens := s.gens + 1, T := put ⟨oid, oclient, (s.gens + 1 : Nat), D, ocron⟩ (away oid s.T) }) hid64.out rfl rfl rfl hok.out
        have hB := B2.out.lt
        have no : ∀ i, w.heap.size ≤ i → i < w2.heap.size → i ∉ Go.Proofs.YtoihekgmomjhpaaGreatDoor.own x3 b := fun i h1 h2 h3 => by
          rcases A9.own i h3 with e | e
          · have := hlt.out i e; omega
          · omega
        have hop := (A.kept.block _ (Nat.lt_of_lt_of_le (lt_in op8.out) k.size) (no _ (Nat.le_refl _) (by omega))).trans ((k.block _ (lt_in op8.out)).trans op8.out)
        have hrp := (A.kept.block _ (Nat.lt_of_lt_of_le (lt_in rp8.out) k.size) (no _ (by omega) hB)).trans ((k.block _ (lt_in rp8.out)).trans rp8.out)
        refine ⟨w', r, ?_, hrp, x', A9.mono' A⟩
        have h1 := A.sv.rs (g := s.gens) rfl hop
        exact ⟨h1.c1, by have := h1.c2; rw [hx] at this; exact this, h1.p1, h1.p3, h1.p9⟩
      obtain ⟨r1, r2, r3, r4, r5⟩ := (HS.out w8.drew (Below.refl _ _).drew).all
      go_region_held3 (fun w' => w'.cell? ⟨b, 1, none⟩ = some (.int .i64 ((s.gens : Int) + 1)) ∧ w'.cell? ⟨b, 2, none⟩ = some (.map (some x3.tb)) ∧ w'.cell? ⟨w.heap.size, 1, none⟩ = some (.int .i64 oclient) ∧ w'.cell? ⟨w.heap.size, 3, none⟩ = some (.int .i64 oid) ∧ w'.cell? ⟨w.heap.size, 9, none⟩ = some (.string ocron))
        (first | exact ⟨r1, r2, r3, r4, r5⟩ | exact ⟨t1, t2, t3, t4, t5⟩ | exact ⟨u1, u2, u3, u4, u5⟩)
        ((go_at_call 29; refine (cC.out _).mono ?_; rintro e w9 ⟨rfl, k9⟩; have kk : Hid (Below w8.heap.size w8 w9) := (Below.refl _ _).drew.trans k9; clear k9; obtain ⟨t1, t2, t3, t4, t5⟩ := (HS.out w9 kk.out).all; obtain ⟨w10, hrun, h10, rp10, x10, A10⟩ := HP.out w9 kk.out; obtain ⟨u1, u2, u3, u4, u5⟩ := h10; replace rp10 := Lib.hid rp10; replace A10 := Lib.hid A10))
      all_goals
        clear r1 r2 r3 r4 r5 t1 t2 t3 t4 t5 u2 u3 u4 u5 hrun HS HP
        obtain ⟨q0, q1, q2, z0, z1, z2⟩ := rp_cells rp10.out
        go_wp2_with fail
        refine bodyPost_ret (v := rpV ⟨0, (s.gens : Int) + 1, D⟩) ?_ rfl ?_
        · rw [results_cellA rfl]
          go_simp
        · exact ⟨rfl, x10, Aft.store A10.out B2.out.bel hlt.out (by omega) B2.out.lt _ _ _⟩
    case true =>
      clear hq
      go_wp2_with fail
      go_quiet (fail)
      have A6 := Lib.hid (A5.out.below (below_drewN (Below.refl _ _) nq))
      have rp6 : Hid ((w5.drewN nq).heap[w.heap.size + 1]? = some rpO) := rp5.out
      have op6 : Hid ((w5.drewN nq).heap[w.heap.size]? = some (opO ⟨okind, oclient, oreq, oid, ogen, oocc, odue, ostamp, oepoch, ocron⟩)) := op5.out
      clear c0 c2 ln A5 rp5 op5 A3 C3
      generalize w5.drewN nq = w6 at *
      have hbl := hlt.out b (by simp [own])
      have A8 : Hid (Aft w2 b x (w6.setCell ⟨b, 1, none⟩ (.int .i64 ((s.gens : Int) + 1))) { s with gens := s.gens + 1 } cl x3 (c + 1)) := A6.out.mono' (A6.out.sv.again (by omega) (by omega))
      have rp8 : Hid ((w6.setCell ⟨b, 1, none⟩ (.int .i64 ((s.gens : Int) + 1))).heap[w.heap.size + 1]? = some rpO) := (heap_setCell_other _ _ _ _ (show w.heap.size + 1 ≠ b by omega)).trans rp6.out
      have op8 : Hid ((w6.setCell ⟨b, 1, none⟩ (.int .i64 ((s.gens : Int) + 1))).heap[w.heap.size]? = some (opO ⟨okind, oclient, oreq, oid, ogen, oocc, odue, ostamp, oepoch, ocron⟩)) := (heap_setCell_other _ _ _ _ (show w.heap.size ≠ b by omega)).trans op6.out
      have c1 := A6.out.sv.c1
      have f1 := A6.out.sv.fz 1
      replace hbl := Lib.hid hbl
      replace hg0 := Lib.hid hg0
      replace hg1 := Lib.hid hg1
      replace hc := Lib.hid hc
      clear A6 rp6 op6
      go_wp2_with fail
      clear c1 f1
      generalize w6.setCell ⟨b, 1, none⟩ (.int .i64 ((s.gens : Int) + 1)) = w8 at *
      have HS : Hid (∀ W, Below w8.heap.size w8 W → Rs w W b s.gens x3 ⟨okind, oclient, oreq, oid, ogen, oocc, odue, ostamp, oepoch, ocron⟩) := fun W k => (A8.out.sv.below k).rs rfl ((k.block _ (lt_in op8.out)).trans op8.out)
      have HP : Hid (∀ W, Below w8.heap.size w8 W → ∃ w', (Instr.mapUpdate mt (.map (some x3.tb)) (.int .i64 oid) (.agg #[.int .i64 oid, .int .i64 oclient, .int .i64 ((s.gens : Int) + 1), .int .i64 D, .string ocron])).run Tryz.prog W = .ok () w' ∧ Rs w w' b s.gens x3 ⟨okind, oclient, oreq, oid, ogen, oocc, odue, ostamp, oepoch, ocron⟩ ∧ w'.heap[w.heap.size + 1]? = some rpO ∧ ∃ x', Aft w2 b x w' { s with gens := s.gens + 1, T := put ⟨oid, oclient, (s.gens + 1 : Nat), D, ocron⟩ (away oid s.T) } cl x' (c + 1)) := fun W k => by
        have A9 := A8.out.below k
        obtain ⟨w', r, z, g, x', A, hx⟩ := A9.sv.putT (t := ⟨oid, oclient, (s.gens + 1 : Nat), D, ocron⟩) (s' := { s with gens := s.gens + 1, T := put ⟨oid, oclient, (s.gens + 1 : Nat), D, ocron⟩ (away oid s.T) }) hid64.out rfl rfl rfl hok.out
        have hB := B2.out.lt
        have no : ∀ i, w.heap.size ≤ i → i < w2.heap.size → i ∉ Go.Proofs.YtoihekgmomjhpaaGreatDoor.own x3 b := fun i h1 h2 h3 => by
          rcases A9.own i h3 with e | e
          · have := hlt.out i e; omega
          · omega
        have hop := (A.kept.block _ (Nat.lt_of_lt_of_le (lt_in op8.out) k.size) (no _ (Nat.le_refl _) (by omega))).trans ((k.block _ (lt_in op8.out)).trans op8.out)
        have hrp := (A.kept.block _ (Nat.lt_of_lt_of_le (lt_in rp8.out) k.size) (no _ (by omega) hB)).trans ((k.block _ (lt_in rp8.out)).trans rp8.out)
        refine ⟨w', r, ?_, hrp, x', A9.mono' A⟩
        have h1 := A.sv.rs (g := s.gens) rfl hop
        exact ⟨h1.c1, by have := h1.c2; rw [hx] at this; exact this, h1.p1, h1.p3, h1.p9⟩
      obtain ⟨r1, r2, r3, r4, r5⟩ := (HS.out w8.drew (Below.refl _ _).drew).all
      go_region_held3 (fun w' => w'.cell? ⟨b, 1, none⟩ = some (.int .i64 ((s.gens : Int) + 1)) ∧ w'.cell? ⟨b, 2, none⟩ = some (.map (some x3.tb)) ∧ w'.cell? ⟨w.heap.size, 1, none⟩ = some (.int .i64 oclient) ∧ w'.cell? ⟨w.heap.size, 3, none⟩ = some (.int .i64 oid) ∧ w'.cell? ⟨w.heap.size, 9, none⟩ = some (.string ocron))
        (first | exact ⟨r1, r2, r3, r4, r5⟩ | exact ⟨t1, t2, t3, t4, t5⟩ | exact ⟨u1, u2, u3, u4, u5⟩)
        ((go_at_call 29; refine (cC.out _).mono ?_; rintro e w9 ⟨rfl, k9⟩; have kk : Hid (Below w8.heap.size w8 w9) := (Below.refl _ _).drew.trans k9; clear k9; obtain ⟨t1, t2, t3, t4, t5⟩ := (HS.out w9 kk.out).all; obtain ⟨w10, hrun, h10, rp10, x10, A10⟩ := HP.out w9 kk.out; obtain ⟨u1, u2, u3, u4, u5⟩ := h10; replace rp10 := Lib.hid rp10; replace A10 := Lib.hid A10))
      all_goals
        clear r1 r2 r3 r4 r5 t1 t2 t3 t4 t5 u2 u3 u4 u5 hrun HS HP
        obtain ⟨q0, q1, q2, z0, z1, z2⟩ := rp_cells rp10.out
        go_wp2_with fail
        refine bodyPost_ret (v := rpV ⟨0, (s.gens : Int) + 1, D⟩) ?_ rfl ?_
        · rw [results_cellA rfl]
          go_simp
        · exact ⟨rfl, x10, Aft.store A10.out B2.out.bel hlt.out (by omega) B2.out.lt _ _ _⟩
end
end Go.Proofs.YtoihekgmomjhpaaGreatDoor
