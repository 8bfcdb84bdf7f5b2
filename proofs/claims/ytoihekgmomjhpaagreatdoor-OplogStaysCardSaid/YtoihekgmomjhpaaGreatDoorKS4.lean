/-
  Texts laid into one (a claim has 60 files at most): SCancel, SFire, SAsk2.
-/
import Derived.Test.YtoihekgmomjhpaaGreatDoorKS3
import Derived.Deep.RegionHeld3
import Derived.BigQuiet
import Derived.Lib.MinMax
import Derived.Deep.RegionLaw
import Derived.Maps.AppendAt
/-
  Layer 8: cancel and fire.
-/
set_option linter.unusedVariables false
namespace Go.Proofs.YtoihekgmomjhpaaGreatDoor
open Go.RowKit Crn Nxt Ste
set_option maxRecDepth 100000
section
variable {w w' : World} {b : Nat} {s : St} {cl : List Int} {x : Px} {c : Nat}
theorem hasT_none {T : List Tm} {id : Int} (h : hasT T id = false) : find id T = none := by
  unfold hasT at h
  cases hf : find id T with
  | none => rfl
  | some t => rw [hf] at h; cases h
/-- The map's entries behind one that goes. -/
theorem Sv.awayT {W : World} (h : Sv W b s cl x c) {id : Int} (hq : hasT s.T id = true) {s' : St} (hT : s'.T = away id s.T) (hr : s'.room = s.room) (hg : s'.gens = s.gens) (ok : Ok s') :
    ∃ w', (∀ ty, (Builtin.delete_ #[mt, 3] ty #[.map (some x.tb), .int .i64 id]).run Tryz.prog W = .ok (.tuple #[]) w') ∧ w'.heap.size = W.heap.size ∧ W.grownBy w' (some x.tb) ∧ ∃ x', Aft W b x w' s' cl x' c ∧ x'.tb = x.tb := by
  obtain ⟨k1, k2⟩ := h.tkeys
  obtain ⟨h1, h2⟩ := find_some (hasT_some hq)
  have hp : (id, tmV (valT s.T id)) ∈ x.tl.map tmP := List.mem_map.2 ⟨valT s.T id, h.tp.mem_iff.2 h1, by unfold tmP; rw [h2]⟩
  obtain ⟨w', r, v, g, z⟩ := vdelete mapT h.tm k1 k2 hp
  rw [tmP_filter] at v
  exact ⟨w', r, z, g, _, h.timers v g (by rw [hT]; exact perm_away h.tp id) hr hg ok, rfl⟩
theorem cancel_none {s : St} {o : OpN} (h : hasT s.T o.id = false) : cancelN s o = (s, ⟨6, 0, 0⟩) := by
  unfold cancelN
  rw [hasT_none h]
theorem cancel_some {s : St} {o : OpN} (h : hasT s.T o.id = true) : cancelN s o = ({ s with T := away o.id s.T }, ⟨0, (valT s.T o.id).gen, (valT s.T o.id).due⟩) := by
  unfold cancelN
  rw [hasT_some h]
set_option maxHeartbeats 4000000 in
theorem cancel_any (h : Sv w b s cl x c) (o : OpN) (ho : OpOk o) :
    Calls Tryz.prog 84 #[.pointer (some ⟨b, 0, none⟩), opV o] w fun e w' => e = .returned (rpV (cancelN s o).2) ∧ ∃ x', Aft w b x w' (cancelN s o).1 cl x' c := by
  have hlt := Lib.hid (fun i hi => (h.lt i hi).1)
  have B0 := Lib.hid (Bx.start w o)
  have cR := Lib.hid refusal_any
  have cG : Hid (∀ W, Below w.heap.size w W → Calls Tryz.prog 30 #[.pointer (some ⟨b, 0, none⟩), .int .i64 o.id] W fun e w' => e = .returned (.tuple #[tmV (valT s.T o.id), .int .i64 (getE s.T o.id)]) ∧ Below W.heap.size W w') := fun W k => get_any (h.below k) o.id ho.id
  have hch := cancel_chg h.ok ho
  have hg0 := h.ok.gens
  have hS : Hid (∀ W, Below w.heap.size w W → Sv W b s cl x c) := fun W k => h.below k
  obtain ⟨p0, p1, p2, p3, p4, p5, p6, p7, p8, p9⟩ := op_cells B0.out.op
  clear p0 p1 p2 p4 p5 p6 p7 p8 p9
  cases hq : hasT s.T o.id with
  | false =>
    have hge : getE s.T o.id = 6 := by unfold getE; rw [hq]; rfl
    rw [hge] at cG
    rw [cancel_none hq]
    clear h ho hch hge hg0
    replace hq := Lib.hid hq
    obtain ⟨okind, oclient, oreq, oid, ogen, oocc, odue, ostamp, oepoch, ocron⟩ := o
    simp only [opV, opC, opO, rpO] at *
    generalize valT s.T oid = vt at *
    go_enter Tryz.func84, Tryz.ntmps84
    go_wp2_with fail
    refine (cG.out _ B0.out.bel).mono ?_
    rintro e w2 ⟨rfl, k2⟩
    have B2 := Lib.hid (B0.out.below k2)
    clear B0 k2 p3
    go_wp2_with fail
    refine (cR.out 6 _).mono ?_
    rintro e w3 ⟨rfl, k3⟩
    have k30 := (Below.refl w2.heap.size w2).alloc (Nat.le_refl _) (.cells #[.int .i64 vt.id, .int .i64 vt.client, .int .i64 vt.gen, .int .i64 vt.due, .string vt.cron] 55)
    have B3 := B2.out.below (k30.trans (k3.mono k30.size))
    obtain ⟨q0, q1, q2, z0, z1, z2⟩ := rp_cells B3.rp
    have A3 := Lib.hid (Aft.refl (hS.out _ B3.bel))
    replace B3 := Lib.hid B3
    clear B2 k3 k30
    go_wp2_with fail
    refine bodyPost_ret (v := rpV ⟨6, 0, 0⟩) ?_ rfl ?_
    · rw [results_cellA rfl]
      go_simp
    · exact ⟨rfl, x, Aft.store A3.out B3.out.bel hlt.out (by omega) B3.out.lt _ _ _⟩
  | true =>
    have hge : getE s.T o.id = 0 := by unfold getE; rw [hq]; rfl
    rw [hge] at cG
    rw [cancel_some hq] at hch ⊢
    have hok := Lib.hid (hch.ok h.ok hg0)
    have HD : Hid (∀ W, Sv W b s cl x c → ∃ w', (∀ ty, (Builtin.delete_ #[mt, 3] ty #[.map (some x.tb), .int .i64 o.id]).run Tryz.prog W = .ok (.tuple #[]) w') ∧ w'.cell? ⟨b, 2, none⟩ = some (.map (some x.tb)) ∧ ∃ x', Aft W b x w' { s with T := away o.id s.T } cl x' c) := fun W hW => by
      obtain ⟨w', r, _, _, x', A, hx⟩ := hW.awayT (s' := { s with T := away o.id s.T }) hq rfl rfl rfl hok.out
      exact ⟨w', r, by have := A.sv.c2; rw [hx] at this; exact this, x', A⟩
    clear h ho hch hge hg0 hok
    replace hq := Lib.hid hq
    obtain ⟨okind, oclient, oreq, oid, ogen, oocc, odue, ostamp, oepoch, ocron⟩ := o
    simp only [opV, opC, opO, rpO] at *
    generalize valT s.T oid = vt at *
    go_enter Tryz.func84, Tryz.ntmps84
    go_wp2_with fail
    refine (cG.out _ B0.out.bel).mono ?_
    rintro e w2 ⟨rfl, k2⟩
    have B2 := Lib.hid (B0.out.below k2)
    clear B0 k2 p3
    go_wp2_with fail
    have k3 := (Below.refl w2.heap.size w2).alloc (Nat.le_refl _) (.cells #[.int .i64 vt.id, .int .i64 vt.client, .int .i64 vt.gen, .int .i64 vt.due, .string vt.cron] 55)
    have B3 := Lib.hid (B2.out.below k3)
    have t2 : (w2.alloc (.cells #[.int .i64 vt.id, .int .i64 vt.client, .int .i64 vt.gen, .int .i64 vt.due, .string vt.cron] 55)).cell? ⟨w2.heap.size, 2, none⟩ = some (.int .i64 vt.gen) := cell_in (Go.heap_alloc_new w2 _) 2
    have t3 : (w2.alloc (.cells #[.int .i64 vt.id, .int .i64 vt.client, .int .i64 vt.gen, .int .i64 vt.due, .string vt.cron] 55)).cell? ⟨w2.heap.size, 3, none⟩ = some (.int .i64 vt.due) := cell_in (Go.heap_alloc_new w2 _) 3
    have hB2 := Lib.hid B2.out.lt
    have hsz : w2.heap.size < (w2.alloc (.cells #[.int .i64 vt.id, .int .i64 vt.client, .int .i64 vt.gen, .int .i64 vt.due, .string vt.cron] 55)).heap.size := by simp
    replace hsz := Lib.hid hsz
    clear B2 k3
    generalize w2.alloc (.cells #[.int .i64 vt.id, .int .i64 vt.client, .int .i64 vt.gen, .int .i64 vt.due, .string vt.cron] 55) = w3 at *
    generalize w2.heap.size = g3 at *
    have c2 := (hS.out _ B3.out.bel).c2
    have p3 := (op_cells B3.out.op).2.2.2.1
    obtain ⟨w4, hdel, d2, x4, A4⟩ := HD.out w3.drew (hS.out _ B3.out.bel.drew)
    have hw : ∀ k, w.heap.size ≤ k → k < w3.heap.size → w4.heap[k]? = w3.heap[k]? := fun k h1 h2 => A4.kept.block k h2 (fun g => by have := hlt.out k g; omega)
    have hB3 := B3.out.lt
    have hop := (hw _ (Nat.le_refl _) (by omega)).trans B3.out.op
    have hrp := (hw _ (by omega) hB3).trans B3.out.rp
    have d3 := (op_cells hop).2.2.2.1
    obtain ⟨q0, q1, q2, z0, z1, z2⟩ := rp_cells hrp
    have u2 := (World.cell?_of_block (w := w3) (a := ⟨g3, 2, none⟩) (hw g3 (by have := hB2.out; omega) hsz.out)).trans t2
    have u3 := (World.cell?_of_block (w := w3) (a := ⟨g3, 3, none⟩) (hw g3 (by have := hB2.out; omega) hsz.out)).trans t3
    have A5 : Hid (Aft w3 b x w4 { s with T := away oid s.T } cl x4 c) := Aft.before (Below.refl _ _).drew A4
    clear hop hrp hw A4 HD
    replace hB3 := Lib.hid hB3
    go_region_held3 (fun w' => w'.cell? ⟨b, 2, none⟩ = some (.map (some x.tb)) ∧ w'.cell? ⟨w.heap.size, 3, none⟩ = some (.int .i64 oid)) (first | exact ⟨c2, p3⟩ | exact ⟨d2, d3⟩) (fail)
    all_goals
      clear c2 p3 d2 d3 hdel t2 t3
      go_wp2_with fail
      refine bodyPost_ret (v := rpV ⟨0, vt.gen, vt.due⟩) ?_ rfl ?_
      · rw [results_cellA rfl]
        go_simp
      · exact ⟨rfl, x4, Aft.store A5.out B3.out.bel hlt.out (by omega) B3.out.lt _ _ _⟩
end
end Go.Proofs.YtoihekgmomjhpaaGreatDoor

/-
  Layer 8: fire.
-/
set_option linter.unusedVariables false
namespace Go.Proofs.YtoihekgmomjhpaaGreatDoor
open Go.RowKit Crn Nxt Ste
set_option maxRecDepth 100000
section
variable {w w' : World} {b : Nat} {s : St} {cl : List Int} {x : Px} {c : Nat}
theorem fires_has {s : St} {o : OpN} (h : firesB s o = true) : hasT s.T o.id = true := by
  unfold firesB at h
  unfold hasT
  cases hf : find o.id s.T with
  | none => rw [hf] at h; simp at h
  | some t => rfl
theorem fire_no {s : St} {o : OpN} (h : firesB s o = false) : fireN s o = (s, ⟨6, 0, 0⟩) := by
  unfold fireN
  rw [if_pos h]
theorem fire_once {s : St} {o : OpN} (h : firesB s o = true) (hz : (valT s.T o.id).cron.size = 0) : fireN s o = ({ s with T := away o.id s.T }, ⟨0, o.gen, o.occ⟩) := by
  unfold fireN
  rw [if_neg (by rw [h]; simp), hasT_some (fires_has h)]
  show (({ s with T := if (valT s.T o.id).cron.size = 0 then _ else _ } : St), _) = _
  rw [if_pos hz]
theorem fire_again {s : St} {o : OpN} (h : firesB s o = true) (hz : ¬ (valT s.T o.id).cron.size = 0) : fireN s o = ({ s with T := put { valT s.T o.id with due := afterN (valT s.T o.id).cron (max o.occ o.stamp) } (away o.id s.T) }, ⟨0, o.gen, o.occ⟩) := by
  unfold fireN
  rw [if_neg (by rw [h]; simp), hasT_some (fires_has h)]
  show (({ s with T := if (valT s.T o.id).cron.size = 0 then _ else _ } : St), _) = _
  rw [if_neg hz]
set_option maxHeartbeats 4000000 in
theorem fire_refused (h : Sv w b s cl x c) (o : OpN) (ho : OpOk o) (hf : firesB s o = false) :
    Calls Tryz.prog 51 #[.pointer (some ⟨b, 0, none⟩), opV o] w fun e w' => e = .returned (rpV (fireN s o).2) ∧ ∃ x', Aft w b x w' (fireN s o).1 cl x' c := by
  rw [fire_no hf]
  have hlt := Lib.hid (fun i hi => (h.lt i hi).1)
  have B0 := Lib.hid (Bx.start w o)
  have cR := Lib.hid refusal_any
  have cF : Hid (∀ W, Below w.heap.size w W → Calls Tryz.prog 67 #[.pointer (some ⟨b, 0, none⟩), opV o] W fun e w' => e = .returned (.bool (firesB s o)) ∧ Below W.heap.size W w') := fun W k => fires_any (h.below k) o ho
  rw [hf] at cF
  have hS : Hid (∀ W, Below w.heap.size w W → Sv W b s cl x c) := fun W k => h.below k
  obtain ⟨p0, p1, p2, p3, p4, p5, p6, p7, p8, p9⟩ := op_cells B0.out.op
  replace hf := Lib.hid hf
  clear h ho
  obtain ⟨okind, oclient, oreq, oid, ogen, oocc, odue, ostamp, oepoch, ocron⟩ := o
  simp only [opV, opC, opO, rpO] at *
  go_enter Tryz.func51, Tryz.ntmps51
  go_wp2_with fail
  refine (cF.out _ B0.out.bel).mono ?_
  rintro e w2 ⟨rfl, k2⟩
  have B2 := Lib.hid (B0.out.below k2)
  clear B0 k2 p0 p1 p2 p3 p4 p5 p6 p7 p8 p9
  go_wp2_with fail
  refine (cR.out 6 _).mono ?_
  rintro e w3 ⟨rfl, k3⟩
  have B3 := B2.out.below k3
  obtain ⟨q0, q1, q2, z0, z1, z2⟩ := rp_cells B3.rp
  have A3 := Lib.hid (Aft.refl (hS.out _ B3.bel))
  replace B3 := Lib.hid B3
  clear B2 k3
  go_wp2_with fail
  refine bodyPost_ret (v := rpV ⟨6, 0, 0⟩) ?_ rfl ?_
  · rw [results_cellA rfl]
    go_simp
  · exact ⟨rfl, x, Aft.store A3.out B3.out.bel hlt.out (by omega) B3.out.lt _ _ _⟩
/-- A cell of a block that the call made is written. -/
theorem Aft.put1 {W1 : World} {s' : St} {cl' : List Int} {x' : Px} {c' r : Nat} (A : Aft W1 b x w' s' cl' x' c') (k : Below w.heap.size w W1) (hlt : ∀ i, i ∈ Go.Proofs.YtoihekgmomjhpaaGreatDoor.own x b → i < w.heap.size) (hr : w.heap.size ≤ r) (hr1 : r < W1.heap.size) (o : Nat) (v : Value) :
    Aft w b x (w'.setCell ⟨r, o, none⟩ v) s' cl' x' c' := by
  have A0 := A.before k
  have kr : Kl [r] w' (w'.setCell ⟨r, o, none⟩ v) := (Kl.refl _ _).setCell (by simp) o v
  refine ⟨A.sv.kept kr (fun i hi ho => ?_), ⟨kr.os.trans A0.kept.os, kr.tape.trans A0.kept.tape, kr.output.trans A0.kept.output, Nat.le_trans A0.kept.size kr.size, fun i hi hn => (kr.block i (Nat.lt_of_lt_of_le hi A0.kept.size) (by simp only [List.mem_singleton]; omega)).trans (A0.kept.block i hi hn)⟩, A0.own, A0.kl⟩
  simp only [List.mem_singleton] at hi
  subst hi
  rcases A.own i ho with g | g
  · have := hlt i g; omega
  · omega
theorem tm_cells {W : World} {g : Nat} {v0 v1 v2 v3 v4 : Value} (h : W.heap[g]? = some (.cells #[v0, v1, v2, v3, v4] 55)) : W.cell? ⟨g, 0, none⟩ = some v0 ∧ W.cell? ⟨g, 1, none⟩ = some v1 ∧ W.cell? ⟨g, 2, none⟩ = some v2 ∧ W.cell? ⟨g, 3, none⟩ = some v3 ∧ W.cell? ⟨g, 4, none⟩ = some v4 ∧ W.frozen? ⟨g, 3, none⟩ = false :=
  ⟨cell_in h 0, cell_in h 1, cell_in h 2, cell_in h 3, cell_in h 4, free_in h 3⟩
set_option maxHeartbeats 8000000 in
theorem fire_done (h : Sv w b s cl x c) (tb : Tab w) (nt : NTab w) (hc : c ≤ 900000) (o : OpN) (ho : OpOk o) (hf : firesB s o = true) :
    Calls Tryz.prog 51 #[.pointer (some ⟨b, 0, none⟩), opV o] w fun e w' => e = .returned (rpV (fireN s o).2) ∧ ∃ x', Aft w b x w' (fireN s o).1 cl x' (c + 1) := by
  have hlt := Lib.hid (fun i hi => (h.lt i hi).1)
  have B0 := Lib.hid (Bx.start w o)
  have cF : Hid (∀ W, Below w.heap.size w W → Calls Tryz.prog 67 #[.pointer (some ⟨b, 0, none⟩), opV o] W fun e w' => e = .returned (.bool (firesB s o)) ∧ Below W.heap.size W w') := fun W k => fires_any (h.below k) o ho
  rw [hf] at cF
  have hq := fires_has hf
  have hS : Hid (∀ W, Below w.heap.size w W → Sv W b s cl x c) := fun W k => h.below k
  have hlk : Hid (∀ W, Below w.heap.size w W → (Instr.lookup mt (.map (some x.tb)) (.int .i64 o.id) false).run Tryz.prog W = .ok (tmV (valT s.T o.id)) W) := fun W k => ((h.below k).lookT ho.id rfl).2
  have hch := (apply_ok h.ok ho (by have := h.gc; omega)).1
  have hcr := (h.ok.tm _ (find_some (hasT_some hq)).1).cron
  have hvid := (find_some (hasT_some hq)).2
  have hCN : Hid (∀ W, Below w.heap.size w W → Calls Tryz.prog 68 #[.pointer (some ⟨x.cb, 0, none⟩), .string (valT s.T o.id).cron, .int .i64 (max o.occ o.stamp)] W fun e w' => e = .returned (.tuple #[.int .i64 (afterN (valT s.T o.id).cron (max o.occ o.stamp)), .int .i64 (erC (valT s.T o.id).cron (max o.occ o.stamp))]) ∧ ∃ x', Aft W b x w' s cl x' (c + 1) ∧ x'.cb = x.cb ∧ x'.tb = x.tb) := fun W k =>
    (h.below k).ask (tb.below k) (nt.below k) hc _ _ hcr ⟨by have := ho.occ.1; have := ho.stamp.1; omega, by have := ho.occ.2; have := ho.stamp.2; omega⟩
  have hfk : o.kind = 3 := by
    refine Classical.byContradiction fun g => ?_
    rw [fires_kind g] at hf
    cases hf
  rw [show applyN s o = fireN s o by unfold applyN; rw [if_neg (by omega), if_pos hfk]] at hch
  have hid64 := Lib.hid ho.id
  obtain ⟨p0, p1, p2, p3, p4, p5, p6, p7, p8, p9⟩ := op_cells B0.out.op
  replace hf := Lib.hid hf
  replace hfk := Lib.hid hfk
  replace hc := Lib.hid hc
  by_cases hz : (valT s.T o.id).cron.size = 0
  · rw [fire_once hf.out hz] at hch ⊢
    have HD : Hid (∀ W, Sv W b s cl x c → ∃ w', (∀ ty, (Builtin.delete_ #[mt, 3] ty #[.map (some x.tb), .int .i64 o.id]).run Tryz.prog W = .ok (.tuple #[]) w') ∧ w'.cell? ⟨b, 2, none⟩ = some (.map (some x.tb)) ∧ ∃ x', Aft W b x w' { s with T := away o.id s.T } cl x' c) := fun W hW => by
      obtain ⟨w', r, _, _, x', A, hx⟩ := hW.awayT (s' := { s with T := away o.id s.T }) hq rfl rfl rfl hch
      exact ⟨w', r, by have := A.sv.c2; rw [hx] at this; exact this, x', A⟩
    clear h tb nt ho hch hCN hcr
    replace hq := Lib.hid hq
    replace hvid := Lib.hid hvid
    obtain ⟨okind, oclient, oreq, oid, ogen, oocc, odue, ostamp, oepoch, ocron⟩ := o
    simp only [opV, opC, opO, rpO] at *
    generalize valT s.T oid = vt at *
    obtain ⟨vid, vclient, vgen, vdue, vcron⟩ := vt
    simp only at *
    obtain rfl := size_no hz
    replace hz := True.intro
    go_enter Tryz.func51, Tryz.ntmps51
    go_wp2_with fail
    refine (cF.out _ B0.out.bel).mono ?_
    rintro e w2 ⟨rfl, k2⟩
    have B2 := Lib.hid (B0.out.below k2)
    clear B0 k2 p0 p1 p2 p3 p4 p5 p6 p7 p8 p9
    have c2 := (hS.out _ B2.out.bel.drew).c2
    have p3 : w2.drew.cell? ⟨w.heap.size, 3, none⟩ = some (.int .i64 oid) := (op_cells B2.out.op).2.2.2.1
    have lk := hlk.out _ B2.out.bel.drew
    have HK : Hid (∀ o : Obj, (w2.alloc o).drew.cell? ⟨b, 2, none⟩ = some (.map (some x.tb)) ∧ (w2.alloc o).drew.cell? ⟨w.heap.size, 3, none⟩ = some (.int .i64 oid) ∧ (Instr.lookup mt (.map (some x.tb)) (.int .i64 oid) false).run Tryz.prog (w2.alloc o).drew = .ok (tmV ⟨vid, vclient, vgen, vdue, ⟨#[]⟩⟩) (w2.alloc o).drew) := fun o => by
      have B3 := B2.out.below ((Below.refl w2.heap.size w2).alloc (Nat.le_refl _) o).drew
      exact ⟨(hS.out _ B3.bel).c2, (op_cells B3.op).2.2.2.1, hlk.out _ B3.bel⟩
    go_wp2_with fail
    go_region_held3 (fun w' => w'.cell? ⟨b, 2, none⟩ = some (.map (some x.tb)) ∧ w'.cell? ⟨w.heap.size, 3, none⟩ = some (.int .i64 oid) ∧ (Instr.lookup mt (.map (some x.tb)) (.int .i64 oid) false).run Tryz.prog w' = .ok (tmV ⟨vid, vclient, vgen, vdue, ⟨#[]⟩⟩) w')
      (first | exact ⟨c2, p3, lk⟩ | exact HK.out _) (fail)
    all_goals
      clear c2 p3 lk HK
      have k3 := ((Below.refl w2.heap.size w2).alloc (Nat.le_refl _) (.cells #[.int .i64 vid, .int .i64 vclient, .int .i64 vgen, .int .i64 vdue, .string ⟨#[]⟩] 55)).drew
      have B3 := Lib.hid (B2.out.below k3)
      have t4 : (w2.alloc (.cells #[.int .i64 vid, .int .i64 vclient, .int .i64 vgen, .int .i64 vdue, .string ⟨#[]⟩] 55)).drew.cell? ⟨w2.heap.size, 4, none⟩ = some (.string ⟨#[]⟩) := cell_in (Go.heap_alloc_new w2 _) 4
      clear k3
      generalize (w2.alloc (.cells #[.int .i64 vid, .int .i64 vclient, .int .i64 vgen, .int .i64 vdue, .string ⟨#[]⟩] 55)).drew = w3 at *
      generalize w2.heap.size = g3 at *
      have c2 := (hS.out _ B3.out.bel.drew).c2
      have p3 : w3.drew.cell? ⟨w.heap.size, 3, none⟩ = some (.int .i64 oid) := (op_cells B3.out.op).2.2.2.1
      obtain ⟨w4, hdel, d2, x4, A4⟩ := HD.out w3.drew (hS.out _ B3.out.bel.drew)
      have hw : ∀ k, w.heap.size ≤ k → k < w3.heap.size → w4.heap[k]? = w3.heap[k]? := fun k h1 h2 => A4.kept.block k h2 (fun g => by have := hlt.out k g; omega)
      have hB3 := B3.out.lt
      have hop := (hw w.heap.size (Nat.le_refl _) (by omega)).trans B3.out.op
      have hrp := (hw (w.heap.size + 1) (by omega) hB3).trans B3.out.rp
      obtain ⟨d0, d1, d2', d3, d4, d5, d6, d7, d8, d9⟩ := op_cells hop
      obtain ⟨q0, q1, q2, z0, z1, z2⟩ := rp_cells hrp
      have A5 : Hid (Aft w3 b x w4 { s with T := away oid s.T } cl x4 c) := Aft.before (Below.refl _ _).drew A4
      clear hop hrp hw A4 HD d0 d1 d2' d6 d7 d8 d9
      replace hB3 := Lib.hid hB3
      go_wp2_with fail
      go_region_held3 (fun w' => w'.cell? ⟨b, 2, none⟩ = some (.map (some x.tb)) ∧ w'.cell? ⟨w.heap.size, 3, none⟩ = some (.int .i64 oid)) (first | exact ⟨c2, p3⟩ | exact ⟨d2, d3⟩) (fail)
      all_goals
        clear c2 p3 d2 d3 hdel t4
        go_wp2_with fail
        refine bodyPost_ret (v := rpV ⟨0, ogen, oocc⟩) ?_ rfl ?_
        · rw [results_cellA rfl]
          go_simp
        · exact ⟨rfl, x4, (Aft.store A5.out B3.out.bel hlt.out (by omega) B3.out.lt _ _ _).more (Nat.le_succ _)⟩
  · rw [fire_again hf.out hz] at hch ⊢
    have hq3 := empty_no hz
    have HP : Hid (∀ W x' c', Sv W b s cl x' c' → x'.tb = x.tb → ∃ w', (Instr.mapUpdate mt (.map (some x.tb)) (.int .i64 o.id) (tmV { valT s.T o.id with due := afterN (valT s.T o.id).cron (max o.occ o.stamp) })).run Tryz.prog W = .ok () w' ∧ w'.cell? ⟨b, 2, none⟩ = some (.map (some x.tb)) ∧ ∃ x2, Aft W b x' w' { s with T := put { valT s.T o.id with due := afterN (valT s.T o.id).cron (max o.occ o.stamp) } (away o.id s.T) } cl x2 c') := fun W x' c' hW hx => by
      obtain ⟨w', r, _, _, x2, A, hx2⟩ := hW.putT (t := { valT s.T o.id with due := afterN (valT s.T o.id).cron (max o.occ o.stamp) }) (s' := { s with T := put { valT s.T o.id with due := afterN (valT s.T o.id).cron (max o.occ o.stamp) } (away o.id s.T) }) (by rw [show ({ valT s.T o.id with due := afterN (valT s.T o.id).cron (max o.occ o.stamp) } : Tm).id = o.id from hvid]; exact hid64.out) (by rw [show ({ valT s.T o.id with due := afterN (valT s.T o.id).cron (max o.occ o.stamp) } : Tm).id = o.id from hvid]) rfl rfl hch
      rw [show ({ valT s.T o.id with due := afterN (valT s.T o.id).cron (max o.occ o.stamp) } : Tm).id = o.id from hvid, hx] at r
      exact ⟨w', r, by have := A.sv.c2; rw [hx2, hx] at this; exact this, x2, A⟩
    clear h tb nt ho hch hcr
    replace hq := Lib.hid hq
    replace hz := Lib.hid hz
    obtain ⟨okind, oclient, oreq, oid, ogen, oocc, odue, ostamp, oepoch, ocron⟩ := o
    simp only [opV, opC, opO, rpO] at *
    generalize valT s.T oid = vt at *
    obtain ⟨vid, vclient, vgen, vdue, vcron⟩ := vt
    simp only at *
    subst vid
    generalize afterN vcron (max oocc ostamp) = A at *
    generalize erC vcron (max oocc ostamp) = E at *
    go_enter Tryz.func51, Tryz.ntmps51
    go_wp2_with fail
    refine (cF.out _ B0.out.bel).mono ?_
    rintro e w2 ⟨rfl, k2⟩
    have B2 := Lib.hid (B0.out.below k2)
    clear B0 k2 p0 p1 p2 p3 p4 p5 p6 p7 p8 p9
    have c2 := (hS.out _ B2.out.bel.drew).c2
    have p3 : w2.drew.cell? ⟨w.heap.size, 3, none⟩ = some (.int .i64 oid) := (op_cells B2.out.op).2.2.2.1
    have lk := hlk.out _ B2.out.bel.drew
    have HK : Hid (∀ o : Obj, (w2.alloc o).drew.cell? ⟨b, 2, none⟩ = some (.map (some x.tb)) ∧ (w2.alloc o).drew.cell? ⟨w.heap.size, 3, none⟩ = some (.int .i64 oid) ∧ (Instr.lookup mt (.map (some x.tb)) (.int .i64 oid) false).run Tryz.prog (w2.alloc o).drew = .ok (tmV ⟨oid, vclient, vgen, vdue, vcron⟩) (w2.alloc o).drew) := fun o => by
      have B3 := B2.out.below ((Below.refl w2.heap.size w2).alloc (Nat.le_refl _) o).drew
      exact ⟨(hS.out _ B3.bel).c2, (op_cells B3.op).2.2.2.1, hlk.out _ B3.bel⟩
    go_wp2_with fail
    go_region_held3 (fun w' => w'.cell? ⟨b, 2, none⟩ = some (.map (some x.tb)) ∧ w'.cell? ⟨w.heap.size, 3, none⟩ = some (.int .i64 oid) ∧ (Instr.lookup mt (.map (some x.tb)) (.int .i64 oid) false).run Tryz.prog w' = .ok (tmV ⟨oid, vclient, vgen, vdue, vcron⟩) w')
      (first | exact ⟨c2, p3, lk⟩ | exact HK.out _) (fail)
    all_goals
      clear c2 p3 lk HK
      have k3 := ((Below.refl w2.heap.size w2).alloc (Nat.le_refl _) (.cells #[.int .i64 oid, .int .i64 vclient, .int .i64 vgen, .int .i64 vdue, .string vcron] 55)).drew
      have B3 := Lib.hid (B2.out.below k3)
      have T3 : Hid ((w2.alloc (.cells #[.int .i64 oid, .int .i64 vclient, .int .i64 vgen, .int .i64 vdue, .string vcron] 55)).drew.heap[w2.heap.size]? = some (.cells #[.int .i64 oid, .int .i64 vclient, .int .i64 vgen, .int .i64 vdue, .string vcron] 55)) := Go.heap_alloc_new w2 _
      have hg3 : ∃ g, w2.heap.size = g := ⟨_, rfl⟩
      obtain ⟨g3, hg3⟩ := hg3
      rw [hg3] at T3 ⊢
      replace hg3 := Lib.hid hg3
      replace k3 := Lib.hid k3
      generalize (w2.alloc (.cells #[.int .i64 oid, .int .i64 vclient, .int .i64 vgen, .int .i64 vdue, .string vcron] 55)).drew = w3 at *
      have t4 := (tm_cells T3.out).2.2.2.2.1
      go_wp2_with fail
      have HX : Hid (∀ w6 x6, Aft w3.drew b x w6 s cl x6 (c + 1) → x6.cb = x.cb ∧ x6.tb = x.tb →
          (w6.cell? ⟨b, 5, none⟩ = some (.pointer (some ⟨x.cb, 0, none⟩)) ∧ w6.cell? ⟨g3, 4, none⟩ = some (.string vcron) ∧ w6.cell? ⟨w.heap.size, 5, none⟩ = some (.int .i64 oocc) ∧ w6.cell? ⟨w.heap.size, 7, none⟩ = some (.int .i64 ostamp)) ∧ w6.cell? ⟨g3, 3, none⟩ = some (.int .i64 vdue) ∧ w6.frozen? ⟨g3, 3, none⟩ = false ∧
          ((w6.setCell ⟨g3, 3, none⟩ (.int .i64 A)).cell? ⟨b, 5, none⟩ = some (.pointer (some ⟨x.cb, 0, none⟩)) ∧ (w6.setCell ⟨g3, 3, none⟩ (.int .i64 A)).cell? ⟨g3, 4, none⟩ = some (.string vcron) ∧ (w6.setCell ⟨g3, 3, none⟩ (.int .i64 A)).cell? ⟨w.heap.size, 5, none⟩ = some (.int .i64 oocc) ∧ (w6.setCell ⟨g3, 3, none⟩ (.int .i64 A)).cell? ⟨w.heap.size, 7, none⟩ = some (.int .i64 ostamp)) ∧
          Aft w2 b x (w6.setCell ⟨g3, 3, none⟩ (.int .i64 A)) s cl x6 (c + 1) ∧ (w6.setCell ⟨g3, 3, none⟩ (.int .i64 A)).heap[w.heap.size]? = some (opO ⟨okind, oclient, oreq, oid, ogen, oocc, odue, ostamp, oepoch, ocron⟩) ∧ (w6.setCell ⟨g3, 3, none⟩ (.int .i64 A)).heap[w.heap.size + 1]? = some rpO ∧
          (w6.setCell ⟨g3, 3, none⟩ (.int .i64 A)).heap[g3]? = some (.cells #[.int .i64 oid, .int .i64 vclient, .int .i64 vgen, .int .i64 A, .string vcron] 55) ∧ g3 ∉ Go.Proofs.YtoihekgmomjhpaaGreatDoor.own x6 b) := fun w6 x6 A6 hx => by
        have hB2 := B2.out.lt
        have hg := hg3.out
        have hl := hlt.out
        have hw6 : ∀ k, w.heap.size ≤ k → k < w3.heap.size → w6.heap[k]? = w3.heap[k]? := fun k h1 h2 => A6.kept.block k h2 (fun g => by have := hl k g; omega)
        have T6 := (hw6 g3 (by omega) (lt_in T3.out)).trans T3.out
        have op6 := (hw6 w.heap.size (Nat.le_refl _) (lt_in B3.out.op)).trans B3.out.op
        have rp6 := (hw6 (w.heap.size + 1) (by omega) (lt_in B3.out.rp)).trans B3.out.rp
        have A7 : Aft w2 b x (w6.setCell ⟨g3, 3, none⟩ (.int .i64 A)) s cl x6 (c + 1) := Aft.put1 (w := w2) A6 k3.out.drew (fun i hi => by have := hl i hi; omega) (by omega) (lt_in T3.out) 3 _
        have T7 : (w6.setCell ⟨g3, 3, none⟩ (.int .i64 A)).heap[g3]? = some (.cells #[.int .i64 oid, .int .i64 vclient, .int .i64 vgen, .int .i64 A, .string vcron] 55) := heap_setCell_same _ g3 3 _ _ _ T6
        have op7 : (w6.setCell ⟨g3, 3, none⟩ (.int .i64 A)).heap[w.heap.size]? = some (opO ⟨okind, oclient, oreq, oid, ogen, oocc, odue, ostamp, oepoch, ocron⟩) := (heap_setCell_other _ _ _ _ (show w.heap.size ≠ g3 by omega)).trans op6
        have rp7 : (w6.setCell ⟨g3, 3, none⟩ (.int .i64 A)).heap[w.heap.size + 1]? = some rpO := (heap_setCell_other _ _ _ _ (show w.heap.size + 1 ≠ g3 by omega)).trans rp6
        have ng : g3 ∉ Go.Proofs.YtoihekgmomjhpaaGreatDoor.own x6 b := fun g => by
          rcases A6.own g3 g with e | e
          · have := hl g3 e; omega
          · have h1 : g3 < w3.heap.size := lt_in T3.out
            have h2 : w3.drew.heap.size = w3.heap.size := rfl
            omega
        have h5 := A6.sv.c5
        have h7 := A7.sv.c5
        rw [hx.1] at h5 h7
        exact ⟨⟨h5, (tm_cells T6).2.2.2.2.1, (op_cells op6).2.2.2.2.2.1, (op_cells op6).2.2.2.2.2.2.2.1⟩, (tm_cells T6).2.2.2.1, (tm_cells T6).2.2.2.2.2, ⟨h7, (tm_cells T7).2.2.2.2.1, (op_cells op7).2.2.2.2.2.1, (op_cells op7).2.2.2.2.2.2.2.1⟩, A7, op7, rp7, T7, ng⟩
      have c5 := (hS.out _ B3.out.bel.drew).c5
      have t4d : w3.drew.cell? ⟨g3, 4, none⟩ = some (.string vcron) := t4
      have p5 : w3.drew.cell? ⟨w.heap.size, 5, none⟩ = some (.int .i64 oocc) := (op_cells B3.out.op).2.2.2.2.2.1
      have p7 : w3.drew.cell? ⟨w.heap.size, 7, none⟩ = some (.int .i64 ostamp) := (op_cells B3.out.op).2.2.2.2.2.2.2.1
      clear t4
      go_region_held3 (fun w' => w'.cell? ⟨b, 5, none⟩ = some (.pointer (some ⟨x.cb, 0, none⟩)) ∧ w'.cell? ⟨g3, 4, none⟩ = some (.string vcron) ∧ w'.cell? ⟨w.heap.size, 5, none⟩ = some (.int .i64 oocc) ∧ w'.cell? ⟨w.heap.size, 7, none⟩ = some (.int .i64 ostamp))
        (first | exact ⟨c5, t4d, p5, p7⟩ | exact U6 | exact U7)
        ((go_at_call 68; refine (hCN.out _ B3.out.bel.drew).mono ?_; rintro e w6 ⟨rfl, x6, A6, hx6⟩; obtain ⟨U6, v3, z3, U7, A7, op7, rp7, T7, ng⟩ := HX.out w6 x6 A6 hx6; replace A7 := Lib.hid A7; replace op7 := Lib.hid op7; replace rp7 := Lib.hid rp7; replace T7 := Lib.hid T7; replace hx6 := Lib.hid hx6; replace ng := Lib.hid ng; clear A6))
      all_goals
        clear c5 t4d p5 p7 U6 U7 v3 z3 HX
        generalize w6.setCell ⟨g3, 3, none⟩ (.int .i64 A) = w7 at *
        have c2 : w7.drew.cell? ⟨b, 2, none⟩ = some (.map (some x.tb)) := by have := A7.out.sv.c2; rw [hx6.out.2] at this; exact this
        have p3 : w7.drew.cell? ⟨w.heap.size, 3, none⟩ = some (.int .i64 oid) := (op_cells op7.out).2.2.2.1
        have hT : w7.drew.heap[g3]? = some (.cells #[.int .i64 oid, .int .i64 vclient, .int .i64 vgen, .int .i64 A, .string vcron] 55) := T7.out
        obtain ⟨t0, t1, t2, t3, t4, tz⟩ := tm_cells hT
        obtain ⟨w8, hrun, d2, x8, A8⟩ := HP.out w7.drew x6 _ (A7.out.sv.below (Below.refl _ _).drew) hx6.out.2
        have no : ∀ i, w.heap.size ≤ i → i < w2.heap.size → i ∉ Go.Proofs.YtoihekgmomjhpaaGreatDoor.own x6 b := fun i h1 h2 h3 => by
          rcases A7.out.own i h3 with e | e
          · have := hlt.out i e; omega
          · omega
        have hB2 := B2.out.lt
        have op8 := (A8.kept.block w.heap.size (lt_in op7.out) (no _ (Nat.le_refl _) (by omega))).trans op7.out
        have rp8 := (A8.kept.block (w.heap.size + 1) (lt_in rp7.out) (no _ (by omega) hB2)).trans rp7.out
        obtain ⟨d0, d1, d2', d3, d4, d5, d6, d7, d8, d9⟩ := op_cells op8
        obtain ⟨q0, q1, q2, z0, z1, z2⟩ := rp_cells rp8
        have hT8 : w8.heap[g3]? = some (.cells #[.int .i64 oid, .int .i64 vclient, .int .i64 vgen, .int .i64 A, .string vcron] 55) := (A8.kept.block g3 (lt_in T7.out) ng.out).trans T7.out
        obtain ⟨e0, e1, e2, e3, e4, ez⟩ := tm_cells hT8
        have A9 : Hid (Aft w2 b x w8 { s with T := put ⟨oid, vclient, vgen, A, vcron⟩ (away oid s.T) } cl x8 (c + 1)) := A7.out.mono' (Aft.before (Below.refl _ _).drew A8)
        clear hT tz A8 no op8 rp8 d0 d1 d2' d6 d7 d8 d9 T7 op7 rp7 A7 HP hT8 ez ng
        replace hB2 := Lib.hid hB2
        go_wp2_with fail
        go_region_held3 (fun w' => w'.cell? ⟨b, 2, none⟩ = some (.map (some x.tb)) ∧ w'.cell? ⟨w.heap.size, 3, none⟩ = some (.int .i64 oid) ∧ w'.cell? ⟨g3, 0, none⟩ = some (.int .i64 oid) ∧ w'.cell? ⟨g3, 1, none⟩ = some (.int .i64 vclient) ∧ w'.cell? ⟨g3, 2, none⟩ = some (.int .i64 vgen) ∧ w'.cell? ⟨g3, 3, none⟩ = some (.int .i64 A) ∧ w'.cell? ⟨g3, 4, none⟩ = some (.string vcron))
          (first | exact ⟨c2, p3, t0, t1, t2, t3, t4⟩ | exact ⟨d2, d3, e0, e1, e2, e3, e4⟩) (fail)
        all_goals
          clear c2 p3 t0 t1 t2 t3 t4 d2 d3 e0 e1 e2 e3 e4 hrun
          go_wp2_with fail
          refine bodyPost_ret (v := rpV ⟨0, ogen, oocc⟩) ?_ rfl ?_
          · rw [results_cellA rfl]
            go_simp
          · exact ⟨rfl, x8, Aft.store A9.out B2.out.bel hlt.out (by omega) B2.out.lt _ _ _⟩
end
end Go.Proofs.YtoihekgmomjhpaaGreatDoor

/-
  Layer 8: a client's request that is done, and Apply.
-/
set_option linter.unusedVariables false
namespace Go.Proofs.YtoihekgmomjhpaaGreatDoor
open Go.RowKit Crn Nxt Ste
set_option maxRecDepth 100000
section
variable {w w' : World} {b : Nat} {s : St} {cl : List Int} {x : Px} {c : Nat}
theorem set_any (h : Sv w b s cl x c) (tb : Tab w) (nt : NTab w) (hc : c ≤ 900000) (o : OpN) (ho : OpOk o) :
    Calls Tryz.prog 83 #[.pointer (some ⟨b, 0, none⟩), opV o] w fun e w' => e = .returned (rpV (setN s o).2) ∧ ∃ x', Aft w b x w' (setN s o).1 cl x' (c + 1) := by
  cases hs : settableB o with
  | false => exact set_refused h tb nt hc o ho (.inl hs)
  | true =>
    by_cases hB : o.cron.size ≠ 0 ∧ badB o.cron = true
    · exact set_refused h tb nt hc o ho (.inr ⟨hs, hB.1, hB.2⟩)
    · by_cases hF : find o.id s.T = none ∧ s.room ≤ s.T.length
      · exact set_full h tb nt hc o ho hs hB hF
      · exact set_done h tb nt hc o ho hs hB hF
set_option maxHeartbeats 2000000 in
theorem change_any (h : Sv w b s cl x c) (tb : Tab w) (nt : NTab w) (hc : c ≤ 900000) (o : OpN) (ho : OpOk o) :
    Calls Tryz.prog 66 #[.pointer (some ⟨b, 0, none⟩), opV o] w fun e w' => e = .returned (rpV (changeN s o).2) ∧ ∃ x', Aft w b x w' (changeN s o).1 cl x' (c + 1) := by
  have hlt := Lib.hid (fun i hi => (h.lt i hi).1)
  have B0 := Lib.hid (Bx.start w o)
  obtain ⟨p0, p1, p2, p3, p4, p5, p6, p7, p8, p9⟩ := op_cells B0.out.op
  by_cases hk : o.kind = 1
  · have e0 : (o.kind == 1) = true := by simp [hk]
    have hR : changeN s o = setN s o := by unfold changeN; rw [if_pos hk]
    rw [hR]
    have cS : Hid (∀ W, Below w.heap.size w W → Calls Tryz.prog 83 #[.pointer (some ⟨b, 0, none⟩), opV o] W fun e w' => e = .returned (rpV (setN s o).2) ∧ ∃ x', Aft W b x w' (setN s o).1 cl x' (c + 1)) := fun W k => set_any (h.below k) (tb.below k) (nt.below k) hc o ho
    generalize setN s o = R at *
    replace hk := Lib.hid hk
    clear h tb nt ho hR
    obtain ⟨okind, oclient, oreq, oid, ogen, oocc, odue, ostamp, oepoch, ocron⟩ := o
    obtain ⟨s', rerr, rgen, rdue⟩ := R
    simp only [opV, opC, opO, rpO] at *
    go_enter Tryz.func66, Tryz.ntmps66
    go_wp2_with fail
    refine (cS.out _ B0.out.bel).mono ?_
    rintro e w2 ⟨rfl, x2, A2⟩
    obtain ⟨q0, q1, q2, z0, z1, z2⟩ := rp_cells (B0.out.aft hlt.out A2).2
    replace A2 := Lib.hid A2
    clear p0 p1 p2 p3 p4 p5 p6 p7 p8 p9 cS
    go_wp2_with fail
    refine bodyPost_ret (v := rpV ⟨rerr, rgen, rdue⟩) ?_ rfl ?_
    · rw [results_cellA rfl]
      go_simp
    · exact ⟨rfl, x2, Aft.store A2.out B0.out.bel hlt.out (by omega) B0.out.lt _ _ _⟩
  · have e0 : (o.kind == 1) = false := by simpa using hk
    have hR : changeN s o = cancelN s o := by unfold changeN; rw [if_neg hk]
    rw [hR]
    have cS : Hid (∀ W, Below w.heap.size w W → Calls Tryz.prog 84 #[.pointer (some ⟨b, 0, none⟩), opV o] W fun e w' => e = .returned (rpV (cancelN s o).2) ∧ ∃ x', Aft W b x w' (cancelN s o).1 cl x' c) := fun W k => cancel_any (h.below k) o ho
    generalize cancelN s o = R at *
    replace hk := Lib.hid hk
    clear h tb nt ho hR
    obtain ⟨okind, oclient, oreq, oid, ogen, oocc, odue, ostamp, oepoch, ocron⟩ := o
    obtain ⟨s', rerr, rgen, rdue⟩ := R
    simp only [opV, opC, opO, rpO] at *
    go_enter Tryz.func66, Tryz.ntmps66
    go_wp2_with fail
    refine (cS.out _ B0.out.bel).mono ?_
    rintro e w2 ⟨rfl, x2, A2⟩
    obtain ⟨q0, q1, q2, z0, z1, z2⟩ := rp_cells (B0.out.aft hlt.out A2).2
    replace A2 := Lib.hid A2
    clear p0 p1 p2 p3 p4 p5 p6 p7 p8 p9 cS
    go_wp2_with fail
    refine bodyPost_ret (v := rpV ⟨rerr, rgen, rdue⟩) ?_ rfl ?_
    · rw [results_cellA rfl]
      go_simp
    · exact ⟨rfl, x2, (Aft.store A2.out B0.out.bel hlt.out (by omega) B0.out.lt _ _ _).more (Nat.le_succ _)⟩
theorem Tryz.info3s : (Tryz.prog.info? 3).map (fun i => (i.zero, i.size, i.bytes)) = some (some (.int .i64 0), 1, 8) := by kernel_rfl
/-- A client is appended. -/
theorem Sv.pushC {W : World} (h : Sv W b s cl x c) (hcl : cl.length ≤ 3) (k : Int) (vb : Nat) (hvb : W.heap[vb]? = some (.cells #[.int .i64 k] 3)) (hv : vb ∉ own x b) :
    ∃ p' cap' w', (Builtin.append_ #[106, 106] 106 #[.slice x.p cl.length x.cap, .slice (some ⟨vb, 0, none⟩) 1 1]).run Tryz.prog W = .ok (.slice p' (cl.length + 1) cap') w' ∧ w'.cell? ⟨b, 3, none⟩ = some (.slice x.p cl.length x.cap) ∧ w'.frozen? ⟨b, 3, none⟩ = false ∧
      (∀ i, i < W.heap.size → i ∉ own x b → w'.heap[i]? = W.heap[i]?) ∧ ∃ x', Aft W b x (w'.setCell ⟨b, 3, none⟩ (.slice p' (cl.length + 1) cap')) s (cl ++ [k]) x' c := by
  obtain ⟨i0, hi0, hz0, hzs, hzb⟩ := info_parts Tryz.info3s
  have hnews : ∀ j u, [iv k][j]? = some u → W.cell? ((⟨vb, 0, none⟩ : Addr).add j) = some u := fun j u hu => by
    rw [Addr.add_lit]
    match j with
    | 0 => have e := cell_in hvb 0; simpa [iv] using e.trans (by simpa [iv] using hu)
    | j + 1 => simp at hu
  have f := h.far
  have hlt := h.lt
  have hbW : b < W.heap.size := (hlt b (by simp [own])).1
  have htW : topTab < b := h.hb
  obtain ⟨v', w', h1, h2, h3, -, h5⟩ := run_append_own_at W (topTab + 1) 106 106 3 i0 _ 1 8 Tryz.underlying106 hi0 hz0 hzs hzb rfl (by omega) (.slice x.p cl.length x.cap) cl.length (cl.map iv) h.row ⟨vb, 0, none⟩ 1 1 [iv k] rfl hnews (fun u hu => by simp only [List.mem_singleton] at hu; subst hu; rfl) (by unfold maxLen; omega) (by omega) (by omega)
  obtain ⟨p', cap', rfl⟩ : ∃ p' cap', v' = .slice p' (cl.length + 1) cap' := by
    rcases h2.2 with ⟨rfl, e⟩ | ⟨g, cap, cur, rfl, _⟩
    · exact absurd e (by omega)
    · exact ⟨_, cap, rfl⟩
  have hold : ∀ i, i < W.heap.size → i ∉ rowOf x.p → w'.heap[i]? = W.heap[i]? := fun i hi hn => h3.block i hi (fun e => hn (own_row.1 e.symm))
  have hB : w'.heap[b]? = some (.cells (stC s.room s.gens cl.length x) ts) := (hold b hbW f.br).trans h.blk
  have hnew : ∀ g, g ∈ rowOf p' → g ∈ rowOf x.p ∨ g = W.heap.size := fun g hg => by
    have h6 := own_row (n := cl.length + 1) (cap := cap').2 hg
    rcases h5 with e | e
    · rw [e] at h6; exact .inl (own_row.1 h6)
    · rw [e] at h6; injection h6 with h6; exact .inr h6.symm
  have kl0 : Kl (b :: rowOf x.p) W w' := ⟨h3.os, h3.tape, h3.output, h3.size, fun i hi hn => hold i hi (fun e => hn (by simp [e]))⟩
  have kl : Kl (b :: rowOf x.p) W (w'.setCell ⟨b, 3, none⟩ (.slice p' (cl.length + 1) cap')) := kl0.setCell (by simp) 3 _
  have keep : ∀ i, i ∈ own x b → i ≠ b → i ∉ rowOf x.p → (w'.setCell ⟨b, 3, none⟩ (.slice p' (cl.length + 1) cap')).heap[i]? = W.heap[i]? := fun i hi h6 h7 => kl.block i (hlt i hi).1 (by simp only [List.mem_cons, not_or]; exact ⟨h6, h7⟩)
  refine ⟨p', cap', w', h1, cell_in hB 3, free_in hB 3, fun i hi hn => hold i hi (fun e => hn (by simp [own, e])), { x with p := p', cap := cap' }, ⟨?_, h.tm.kept (keep _ (by simp [own]) (fun e => f.bt e.symm) f.tr), h.tp, h.km.kept (keep _ (by simp [own]) (fun e => f.bl e.symm) f.lr), ?_, h.ca.kept kl (fun i hi => ?_), h.cnt, h.hb, h.ht, h.hl, h.sep, h.ok, h.gc⟩, kl.mono (fun i hi => .inl ?_), fun i hi => ?_, rfl⟩
  · have e := heap_setCell_same _ b 3 _ _ (.slice p' (cl.length + 1) cap') hB
    rw [List.length_append]
    exact e
  · rw [List.length_append, List.map_append]
    refine row_same h2 fun g hg => heap_setCell_other _ _ _ _ (fun e => ?_)
    have e2 : g = b := e
    subst e2
    rcases hnew g (own_row.1 hg) with e3 | e3
    · exact f.br e3
    · omega
  · simp only [List.mem_cons] at hi
    rcases hi with rfl | hi
    · exact f.bc
    · exact f.rc i hi
  · simp only [List.mem_cons] at hi
    rcases hi with rfl | hi
    · simp [own]
    · simp [own, hi]
  · simp only [own, List.mem_cons, List.mem_append] at hi
    rcases hi with rfl | rfl | rfl | hi | hi
    · exact .inl (by simp [own])
    · exact .inl (by simp [own])
    · exact .inl (by simp [own])
    · rcases hnew i hi with e | e
      · exact .inl (by simp [own, e])
      · exact .inr (by omega)
    · exact .inl (by simp [own, hi])
end
end Go.Proofs.YtoihekgmomjhpaaGreatDoor
