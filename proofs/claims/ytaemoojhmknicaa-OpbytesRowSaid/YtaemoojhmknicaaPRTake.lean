/-
  Layer 10: the document's own Take and Read. Condition: at most 100000 bytes.
-/
import Derived.Test.YtaemoojhmknicaaPRead
import Derived.Test.YtaemoojhmknicaaRefReads
set_option linter.unusedVariables false
namespace Go.Proofs.Ytaemoojhmknicaa
open Go.RowKit Cod

theorem RfS.same {w w' : World} {b : Nat} {S : ByteArray} {st : St} (t : RfS w b S st) (hs : w.heap.size ≤ w'.heap.size) (h : w'.heap[b]? = w.heap[b]?) : RfS w' b S st :=
  ⟨t.rf.imp fun _ x => ⟨x.1.same hs h, x.2⟩, t.sz⟩
theorem RfS.lt {w : World} {b : Nat} {S : ByteArray} {st : St} (t : RfS w b S st) : b < w.heap.size := by obtain ⟨a, h, _⟩ := t.rf; exact h.lt
theorem RfS.cell {w : World} {b : Nat} {S : ByteArray} {st : St} (t : RfS w b S st) : w.cell? ⟨b, 2, none⟩ = some (.int .i64 st.e) := by obtain ⟨a, h, _⟩ := t.rf; exact h.c2
theorem RfS.below {w w' : World} {b : Nat} {S : ByteArray} {st : St} (t : RfS w b S st) (k : Below w.heap.size w w') : RfS w' b S st := t.same k.size (k.block b t.lt)
theorem RfS.set {w : World} {b q o : Nat} {S : ByteArray} {st : St} {v : Value} (t : RfS w b S st) (h : b ≠ q) : RfS (w.setCell ⟨q, o, none⟩ v) b S st := t.same (by simp [World.setCell]) (Below.heap_setCell _ _ _ _ h)

set_option maxHeartbeats 4000000 in
set_option maxRecDepth 100000 in
theorem refTake_any (b : Nat) (S : ByteArray) (st : St) (w : World) (t : RfS w b S st) :
    Calls Try.prog 17 #[.pointer (some ⟨b, 0, none⟩)] w fun e w' => e = .returned (.tuple #[opV (takeA st), .bool (tookB st)]) ∧ RfS w' b S (takeT st) ∧ Kept b w w' := by
  have hbl := byteS_lt st
  have hwb : IntKind.i64.wrap (byteS st).1 = (byteS st).1 := IntWalk.i64_in _ (by omega)
  go_enter Try.func17, Try.ntmps17
  go_wp2_with fail
  have z := OpAt.new w 0 23
  have t0 := t.below ((Below.refl _ _).alloc (Nat.le_refl w.heap.size) (Obj.cells (opC opZ) 23))
  have k0 : Kept b w (w.alloc (.cells (opC opZ) 23)) := Kept.ofBelow ((Below.refl _ _).alloc (Nat.le_refl _) _)
  have hb := Lib.hid t.lt
  refine (refByte_all b S st _ t0).mono ?_
  rintro e w1 ⟨rfl, t1, k1⟩
  have hq0 : Hid (w.heap.size < w1.heap.size) := Nat.lt_of_lt_of_le z.lt k1.size
  replace k0 := k0.trans k1
  replace z := z.kept k1 (by have := hb.out; omega)
  have o1 := OpAt.new w1 (byteS st).1 23
  replace z := z.below ((Below.refl _ _).alloc (Nat.le_refl w1.heap.size) (Obj.cells (opC ⟨(byteS st).1, 0, 0, 0, 0, 0, 0, 0, 0, ⟨#[]⟩⟩) 23))
  replace t1 := t1.below ((Below.refl _ _).alloc (Nat.le_refl w1.heap.size) (Obj.cells (opC ⟨(byteS st).1, 0, 0, 0, 0, 0, 0, 0, 0, ⟨#[]⟩⟩) 23))
  replace k0 := k0.below' ((Below.refl _ _).alloc (Nat.le_refl w1.heap.size) (Obj.cells (opC ⟨(byteS st).1, 0, 0, 0, 0, 0, 0, 0, 0, ⟨#[]⟩⟩) 23))
  have hqb : Hid (w1.heap.size ≠ b) := by have := hb.out; have := hq0.out; show _ ≠ _; omega
  have hzb : Hid (w.heap.size ≠ b) := by have := hb.out; show _ ≠ _; omega
  have hzq : Hid (w.heap.size ≠ w1.heap.size) := by have := hq0.out; show _ ≠ _; omega
  have hle : Hid (w.heap.size ≤ w1.heap.size) := Nat.le_of_lt hq0.out
  have hm0 : Hid (readM (byteS st).2 (fun _ => 0) 0 = (fun _ => 0)) := by show _ = _; funext j; unfold readM; rw [if_neg (by omega)]
  rw [← hm0.out] at o1
  clear t t0 k1 hbl hm0
  replace t1 := Lib.hid t1
  replace o1 := Lib.hid o1
  replace z := Lib.hid z
  replace k0 := Lib.hid k0
  have hB : Hid (readK 0 (byteS st).2 = (byteS st).2) := rfl
  rw [← hB.out] at t1
  go_wp2_with fail
  generalize hq : w.heap.size = q0 at *
  generalize w1.heap.size = q at *
  replace hq := Lib.hid hq
  refine (refInt_all b S (readK 0 (byteS st).2) _ t1.out).mono ?_
  rintro e vv0 ⟨rfl, t2, k2⟩
  have o2 := o1.out.kept k2 hqb.out
  have cc := o2.cm 0 (by omega)
  have ff := o2.fz 1
  have o3 := o2.put 0 (by omega) (intS (readK 0 (byteS st).2)).1
  rw [readM_next] at o3
  replace o1 := Lib.hid o3
  replace t1 := Lib.hid (t2.set (q := q) (o := 1) (v := .int .i64 (intS (readK 0 (byteS st).2)).1) hqb.out.symm)
  replace z := Lib.hid ((z.out.kept k2 hzb.out).set (o := 1) (v := .int .i64 (intS (readK 0 (byteS st).2)).1) hzq.out)
  replace k0 := Lib.hid ((k0.out.trans k2).new (q := q) (o := 1) (v := .int .i64 (intS (readK 0 (byteS st).2)).1) (by rw [hq.out]; exact hle.out))
  clear o2 o3 t2 k2
  go_wp2_with fail
  clear cc ff
  generalize vv0.setCell ⟨q, 1, none⟩ (.int .i64 (intS (readK 0 (byteS st).2)).1) = u0 at *
  refine (refInt_all b S (readK 1 (byteS st).2) _ t1.out).mono ?_
  rintro e vv1 ⟨rfl, t2, k2⟩
  have o2 := o1.out.kept k2 hqb.out
  have cc := o2.cm 1 (by omega)
  have ff := o2.fz 2
  have o3 := o2.put 1 (by omega) (intS (readK 1 (byteS st).2)).1
  rw [readM_next] at o3
  replace o1 := Lib.hid o3
  replace t1 := Lib.hid (t2.set (q := q) (o := 2) (v := .int .i64 (intS (readK 1 (byteS st).2)).1) hqb.out.symm)
  replace z := Lib.hid ((z.out.kept k2 hzb.out).set (o := 2) (v := .int .i64 (intS (readK 1 (byteS st).2)).1) hzq.out)
  replace k0 := Lib.hid ((k0.out.trans k2).new (q := q) (o := 2) (v := .int .i64 (intS (readK 1 (byteS st).2)).1) (by rw [hq.out]; exact hle.out))
  clear o2 o3 t2 k2
  go_wp2_with fail
  clear cc ff
  generalize vv1.setCell ⟨q, 2, none⟩ (.int .i64 (intS (readK 1 (byteS st).2)).1) = u1 at *
  refine (refInt_all b S (readK 2 (byteS st).2) _ t1.out).mono ?_
  rintro e vv2 ⟨rfl, t2, k2⟩
  have o2 := o1.out.kept k2 hqb.out
  have cc := o2.cm 2 (by omega)
  have ff := o2.fz 3
  have o3 := o2.put 2 (by omega) (intS (readK 2 (byteS st).2)).1
  rw [readM_next] at o3
  replace o1 := Lib.hid o3
  replace t1 := Lib.hid (t2.set (q := q) (o := 3) (v := .int .i64 (intS (readK 2 (byteS st).2)).1) hqb.out.symm)
  replace z := Lib.hid ((z.out.kept k2 hzb.out).set (o := 3) (v := .int .i64 (intS (readK 2 (byteS st).2)).1) hzq.out)
  replace k0 := Lib.hid ((k0.out.trans k2).new (q := q) (o := 3) (v := .int .i64 (intS (readK 2 (byteS st).2)).1) (by rw [hq.out]; exact hle.out))
  clear o2 o3 t2 k2
  go_wp2_with fail
  clear cc ff
  generalize vv2.setCell ⟨q, 3, none⟩ (.int .i64 (intS (readK 2 (byteS st).2)).1) = u2 at *
  refine (refInt_all b S (readK 3 (byteS st).2) _ t1.out).mono ?_
  rintro e vv3 ⟨rfl, t2, k2⟩
  have o2 := o1.out.kept k2 hqb.out
  have cc := o2.cm 3 (by omega)
  have ff := o2.fz 4
  have o3 := o2.put 3 (by omega) (intS (readK 3 (byteS st).2)).1
  rw [readM_next] at o3
  replace o1 := Lib.hid o3
  replace t1 := Lib.hid (t2.set (q := q) (o := 4) (v := .int .i64 (intS (readK 3 (byteS st).2)).1) hqb.out.symm)
  replace z := Lib.hid ((z.out.kept k2 hzb.out).set (o := 4) (v := .int .i64 (intS (readK 3 (byteS st).2)).1) hzq.out)
  replace k0 := Lib.hid ((k0.out.trans k2).new (q := q) (o := 4) (v := .int .i64 (intS (readK 3 (byteS st).2)).1) (by rw [hq.out]; exact hle.out))
  clear o2 o3 t2 k2
  go_wp2_with fail
  clear cc ff
  generalize vv3.setCell ⟨q, 4, none⟩ (.int .i64 (intS (readK 3 (byteS st).2)).1) = u3 at *
  refine (refInt_all b S (readK 4 (byteS st).2) _ t1.out).mono ?_
  rintro e vv4 ⟨rfl, t2, k2⟩
  have o2 := o1.out.kept k2 hqb.out
  have cc := o2.cm 4 (by omega)
  have ff := o2.fz 5
  have o3 := o2.put 4 (by omega) (intS (readK 4 (byteS st).2)).1
  rw [readM_next] at o3
  replace o1 := Lib.hid o3
  replace t1 := Lib.hid (t2.set (q := q) (o := 5) (v := .int .i64 (intS (readK 4 (byteS st).2)).1) hqb.out.symm)
  replace z := Lib.hid ((z.out.kept k2 hzb.out).set (o := 5) (v := .int .i64 (intS (readK 4 (byteS st).2)).1) hzq.out)
  replace k0 := Lib.hid ((k0.out.trans k2).new (q := q) (o := 5) (v := .int .i64 (intS (readK 4 (byteS st).2)).1) (by rw [hq.out]; exact hle.out))
  clear o2 o3 t2 k2
  go_wp2_with fail
  clear cc ff
  generalize vv4.setCell ⟨q, 5, none⟩ (.int .i64 (intS (readK 4 (byteS st).2)).1) = u4 at *
  refine (refInt_all b S (readK 5 (byteS st).2) _ t1.out).mono ?_
  rintro e vv5 ⟨rfl, t2, k2⟩
  have o2 := o1.out.kept k2 hqb.out
  have cc := o2.cm 5 (by omega)
  have ff := o2.fz 6
  have o3 := o2.put 5 (by omega) (intS (readK 5 (byteS st).2)).1
  rw [readM_next] at o3
  replace o1 := Lib.hid o3
  replace t1 := Lib.hid (t2.set (q := q) (o := 6) (v := .int .i64 (intS (readK 5 (byteS st).2)).1) hqb.out.symm)
  replace z := Lib.hid ((z.out.kept k2 hzb.out).set (o := 6) (v := .int .i64 (intS (readK 5 (byteS st).2)).1) hzq.out)
  replace k0 := Lib.hid ((k0.out.trans k2).new (q := q) (o := 6) (v := .int .i64 (intS (readK 5 (byteS st).2)).1) (by rw [hq.out]; exact hle.out))
  clear o2 o3 t2 k2
  go_wp2_with fail
  clear cc ff
  generalize vv5.setCell ⟨q, 6, none⟩ (.int .i64 (intS (readK 5 (byteS st).2)).1) = u5 at *
  refine (refInt_all b S (readK 6 (byteS st).2) _ t1.out).mono ?_
  rintro e vv6 ⟨rfl, t2, k2⟩
  have o2 := o1.out.kept k2 hqb.out
  have cc := o2.cm 6 (by omega)
  have ff := o2.fz 7
  have o3 := o2.put 6 (by omega) (intS (readK 6 (byteS st).2)).1
  rw [readM_next] at o3
  replace o1 := Lib.hid o3
  replace t1 := Lib.hid (t2.set (q := q) (o := 7) (v := .int .i64 (intS (readK 6 (byteS st).2)).1) hqb.out.symm)
  replace z := Lib.hid ((z.out.kept k2 hzb.out).set (o := 7) (v := .int .i64 (intS (readK 6 (byteS st).2)).1) hzq.out)
  replace k0 := Lib.hid ((k0.out.trans k2).new (q := q) (o := 7) (v := .int .i64 (intS (readK 6 (byteS st).2)).1) (by rw [hq.out]; exact hle.out))
  clear o2 o3 t2 k2
  go_wp2_with fail
  clear cc ff
  generalize vv6.setCell ⟨q, 7, none⟩ (.int .i64 (intS (readK 6 (byteS st).2)).1) = u6 at *
  refine (refInt_all b S (readK 7 (byteS st).2) _ t1.out).mono ?_
  rintro e vv7 ⟨rfl, t2, k2⟩
  have o2 := o1.out.kept k2 hqb.out
  have cc := o2.cm 7 (by omega)
  have ff := o2.fz 8
  have o3 := o2.put 7 (by omega) (intS (readK 7 (byteS st).2)).1
  rw [readM_next] at o3
  replace o1 := Lib.hid o3
  replace t1 := Lib.hid (t2.set (q := q) (o := 8) (v := .int .i64 (intS (readK 7 (byteS st).2)).1) hqb.out.symm)
  replace z := Lib.hid ((z.out.kept k2 hzb.out).set (o := 8) (v := .int .i64 (intS (readK 7 (byteS st).2)).1) hzq.out)
  replace k0 := Lib.hid ((k0.out.trans k2).new (q := q) (o := 8) (v := .int .i64 (intS (readK 7 (byteS st).2)).1) (by rw [hq.out]; exact hle.out))
  clear o2 o3 t2 k2
  go_wp2_with fail
  clear cc ff
  generalize vv7.setCell ⟨q, 8, none⟩ (.int .i64 (intS (readK 7 (byteS st).2)).1) = u7 at *
  replace o1 := Lib.hid (o1.out.congr (m' := fun j => (intS (readK j (byteS st).2)).1) (fun j hj => by unfold readM; rw [if_pos hj]))
  refine (refStr_all b S (readK 8 (byteS st).2) 256 _ (by omega) (by omega) t1.out).mono ?_
  rintro e w4 ⟨rfl, t2, k2⟩
  have o2 := o1.out.kept k2 hqb.out
  have c9 := o2.c9
  have f9 := o2.fz 9
  have o5 := Lib.hid (o2.cron (strS (readK 8 (byteS st).2) 256).1)
  have t5 := Lib.hid (t2.set (q := q) (o := 9) (v := .string (strS (readK 8 (byteS st).2) 256).1) hqb.out.symm)
  have z5 := Lib.hid ((z.out.kept k2 hzb.out).set (o := 9) (v := .string (strS (readK 8 (byteS st).2) 256).1) hzq.out)
  have k5 := Lib.hid ((k0.out.trans k2).new (q := q) (o := 9) (v := .string (strS (readK 8 (byteS st).2) 256).1) (by rw [hq.out]; exact hle.out))
  clear o1 t1 z k0 o2 t2 k2
  go_upto_region 11 with fail
  clear c9 f9
  generalize w4.setCell ⟨q, 9, none⟩ (.string (strS (readK 8 (byteS st).2) 256).1) = w5 at *
  have hO : Hid (takeO st = ⟨(byteS st).1, (intS (readK 0 (byteS st).2)).1, (intS (readK 1 (byteS st).2)).1, (intS (readK 2 (byteS st).2)).1, (intS (readK 3 (byteS st).2)).1, (intS (readK 4 (byteS st).2)).1, (intS (readK 5 (byteS st).2)).1, (intS (readK 6 (byteS st).2)).1, (intS (readK 7 (byteS st).2)).1, (strS (readK 8 (byteS st).2) 256).1⟩) := rfl
  have hT : Hid ((strS (readK 8 (byteS st).2) 256).2 = takeT st) := rfl
  rw [hT.out] at t5
  have cm := Lib.hid (may_any (takeO st) w5 (by have := takeO_cron st; omega))
  have hA1 : Hid ((takeT st).e ≠ 0 → takeA st = opZ ∧ tookB st = false) := fun h0 => by
    have h1 : tookB st = false := by unfold tookB; rw [decide_eq_false h0]; rfl
    exact ⟨by unfold takeA; rw [h1]; rfl, h1⟩
  have hA2 : Hid ((takeT st).e = 0 → okOp (takeO st) = false → takeA st = opZ ∧ tookB st = false) := fun h0 h => by
    have h1 : tookB st = false := by unfold tookB; rw [h, Bool.and_false]
    exact ⟨by unfold takeA; rw [h1]; rfl, h1⟩
  have hA3 : Hid ((takeT st).e = 0 → okOp (takeO st) = true → takeA st = takeO st ∧ tookB st = true) := fun h0 h => by
    have h1 : tookB st = true := by unfold tookB; rw [h, decide_eq_true h0]; rfl
    exact ⟨by unfold takeA; rw [h1]; rfl, h1⟩
  rw [hO.out] at cm hA2 hA3
  have x1 : w5.cell? ⟨q, 1, none⟩ = some (.int .i64 (intS (readK 0 (byteS st).2)).1) := o5.out.cm 0 (by omega)
  have x2 : w5.cell? ⟨q, 2, none⟩ = some (.int .i64 (intS (readK 1 (byteS st).2)).1) := o5.out.cm 1 (by omega)
  have x3 : w5.cell? ⟨q, 3, none⟩ = some (.int .i64 (intS (readK 2 (byteS st).2)).1) := o5.out.cm 2 (by omega)
  have x4 : w5.cell? ⟨q, 4, none⟩ = some (.int .i64 (intS (readK 3 (byteS st).2)).1) := o5.out.cm 3 (by omega)
  have x5 : w5.cell? ⟨q, 5, none⟩ = some (.int .i64 (intS (readK 4 (byteS st).2)).1) := o5.out.cm 4 (by omega)
  have x6 : w5.cell? ⟨q, 6, none⟩ = some (.int .i64 (intS (readK 5 (byteS st).2)).1) := o5.out.cm 5 (by omega)
  have x7 : w5.cell? ⟨q, 7, none⟩ = some (.int .i64 (intS (readK 6 (byteS st).2)).1) := o5.out.cm 6 (by omega)
  have x8 : w5.cell? ⟨q, 8, none⟩ = some (.int .i64 (intS (readK 7 (byteS st).2)).1) := o5.out.cm 7 (by omega)
  have x0 := o5.out.c0
  have x9 := o5.out.c9
  clear hT hO hwb hB
  generalize hm : (fun j => (intS (readK j (byteS st).2)).1) = m at *
  replace hm := Lib.hid hm
  generalize hv1 : (intS (readK 0 (byteS st).2)).1 = v1 at *
  generalize hv2 : (intS (readK 1 (byteS st).2)).1 = v2 at *
  generalize hv3 : (intS (readK 2 (byteS st).2)).1 = v3 at *
  generalize hv4 : (intS (readK 3 (byteS st).2)).1 = v4 at *
  generalize hv5 : (intS (readK 4 (byteS st).2)).1 = v5 at *
  generalize hv6 : (intS (readK 5 (byteS st).2)).1 = v6 at *
  generalize hv7 : (intS (readK 6 (byteS st).2)).1 = v7 at *
  generalize hv8 : (intS (readK 7 (byteS st).2)).1 = v8 at *
  replace hv1 := Lib.hid hv1
  replace hv2 := Lib.hid hv2
  replace hv3 := Lib.hid hv3
  replace hv4 := Lib.hid hv4
  replace hv5 := Lib.hid hv5
  replace hv6 := Lib.hid hv6
  replace hv7 := Lib.hid hv7
  replace hv8 := Lib.hid hv8
  generalize (strS (readK 8 (byteS st).2) 256).1 = v9 at *
  generalize (byteS st).1 = K at *
  have hqn : Hid (w.heap.size ≤ q0) := by show _ ≤ _; rw [hq.out]; exact Nat.le_refl _
  have hbz : Hid (b ≠ q0) := fun e => hzb.out e.symm
  have ce := t5.out.cell
  generalize hT : takeT st = T at *
  replace hT := Lib.hid hT
  by_cases he : T.e = 0
  · have hne : (T.e != 0) = false := by simp [he]
    cases hok : okOp ⟨K, v1, v2, v3, v4, v5, v6, v7, v8, v9⟩
    · obtain ⟨a1, a2⟩ := hA2.out he hok
      replace a1 := Lib.hid a1
      replace a2 := Lib.hid a2
      rw [hok] at cm
      clear hA1 hA2 hA3 hok
      replace he := Lib.hid he
      go_wp2_with fail
      refine cm.out.mono ?_
      rintro e w6 ⟨rfl, b6⟩
      have z6 := Lib.hid (z5.out.below b6)
      have t6 := Lib.hid (t5.out.below b6)
      have k6 := Lib.hid (k5.out.below' b6)
      clear cm x0 x1 x2 x3 x4 x5 x6 x7 x8 x9 ce b6 z5 t5 o5 k5
      have y0 := z6.out.c0
      have g0 := z6.out.fz 0
      have y1 : w6.cell? ⟨q0, 1, none⟩ = some (.int .i64 0) := z6.out.cm 0 (by omega)
      have g1 := z6.out.fz 1
      have y2 : w6.cell? ⟨q0, 2, none⟩ = some (.int .i64 0) := z6.out.cm 1 (by omega)
      have g2 := z6.out.fz 2
      have y3 : w6.cell? ⟨q0, 3, none⟩ = some (.int .i64 0) := z6.out.cm 2 (by omega)
      have g3 := z6.out.fz 3
      have y4 : w6.cell? ⟨q0, 4, none⟩ = some (.int .i64 0) := z6.out.cm 3 (by omega)
      have g4 := z6.out.fz 4
      have y5 : w6.cell? ⟨q0, 5, none⟩ = some (.int .i64 0) := z6.out.cm 4 (by omega)
      have g5 := z6.out.fz 5
      have y6 : w6.cell? ⟨q0, 6, none⟩ = some (.int .i64 0) := z6.out.cm 5 (by omega)
      have g6 := z6.out.fz 6
      have y7 : w6.cell? ⟨q0, 7, none⟩ = some (.int .i64 0) := z6.out.cm 6 (by omega)
      have g7 := z6.out.fz 7
      have y8 : w6.cell? ⟨q0, 8, none⟩ = some (.int .i64 0) := z6.out.cm 7 (by omega)
      have g8 := z6.out.fz 8
      have y9 := z6.out.c9
      have g9 := z6.out.fz 9
      go_wp2_with fail
      refine bodyPost_ret (v := .tuple #[.agg #[.int .i64 0, .int .i64 0, .int .i64 0, .int .i64 0, .int .i64 0, .int .i64 0, .int .i64 0, .int .i64 0, .int .i64 0, .string ⟨#[]⟩], .bool false]) ?_ rfl ?_
      · rw [results_cell_tmp rfl]
        go_simp
      · exact ⟨by rw [a1.out, a2.out]; rfl, hT.out.symm ▸ ((((((((((t6.out.set hbz.out).set hbz.out).set hbz.out).set hbz.out).set hbz.out).set hbz.out).set hbz.out).set hbz.out).set hbz.out).set hbz.out), ((((((((((k6.out.new hqn.out).new hqn.out).new hqn.out).new hqn.out).new hqn.out).new hqn.out).new hqn.out).new hqn.out).new hqn.out).new hqn.out)⟩
    · obtain ⟨a1, a2⟩ := hA3.out he hok
      replace a1 := Lib.hid a1
      replace a2 := Lib.hid a2
      rw [hok] at cm
      clear hA1 hA2 hA3 hok
      replace he := Lib.hid he
      go_wp2_with fail
      refine cm.out.mono ?_
      rintro e w6 ⟨rfl, b6⟩
      have z6 := Lib.hid (z5.out.below b6)
      have t6 := Lib.hid (t5.out.below b6)
      have o6 := Lib.hid (o5.out.below b6)
      have k6 := Lib.hid (k5.out.below' b6)
      clear cm x0 x1 x2 x3 x4 x5 x6 x7 x8 x9 ce b6 z5 t5 o5 k5
      have y0 := z6.out.c0
      have g0 := z6.out.fz 0
      have y1 : w6.cell? ⟨q0, 1, none⟩ = some (.int .i64 0) := z6.out.cm 0 (by omega)
      have g1 := z6.out.fz 1
      have y2 : w6.cell? ⟨q0, 2, none⟩ = some (.int .i64 0) := z6.out.cm 1 (by omega)
      have g2 := z6.out.fz 2
      have y3 : w6.cell? ⟨q0, 3, none⟩ = some (.int .i64 0) := z6.out.cm 2 (by omega)
      have g3 := z6.out.fz 3
      have y4 : w6.cell? ⟨q0, 4, none⟩ = some (.int .i64 0) := z6.out.cm 3 (by omega)
      have g4 := z6.out.fz 4
      have y5 : w6.cell? ⟨q0, 5, none⟩ = some (.int .i64 0) := z6.out.cm 4 (by omega)
      have g5 := z6.out.fz 5
      have y6 : w6.cell? ⟨q0, 6, none⟩ = some (.int .i64 0) := z6.out.cm 5 (by omega)
      have g6 := z6.out.fz 6
      have y7 : w6.cell? ⟨q0, 7, none⟩ = some (.int .i64 0) := z6.out.cm 6 (by omega)
      have g7 := z6.out.fz 7
      have y8 : w6.cell? ⟨q0, 8, none⟩ = some (.int .i64 0) := z6.out.cm 7 (by omega)
      have g8 := z6.out.fz 8
      have y9 := z6.out.c9
      have g9 := z6.out.fz 9
      have x0 := o6.out.c0
      have x9 := o6.out.c9
      have x1 : w6.cell? ⟨q, 1, none⟩ = some (.int .i64 v1) := (o6.out.cm 0 (by omega)).trans (congrArg (fun z => some (Value.int .i64 z)) (hv1.out ▸ hm.out ▸ rfl))
      have x2 : w6.cell? ⟨q, 2, none⟩ = some (.int .i64 v2) := (o6.out.cm 1 (by omega)).trans (congrArg (fun z => some (Value.int .i64 z)) (hv2.out ▸ hm.out ▸ rfl))
      have x3 : w6.cell? ⟨q, 3, none⟩ = some (.int .i64 v3) := (o6.out.cm 2 (by omega)).trans (congrArg (fun z => some (Value.int .i64 z)) (hv3.out ▸ hm.out ▸ rfl))
      have x4 : w6.cell? ⟨q, 4, none⟩ = some (.int .i64 v4) := (o6.out.cm 3 (by omega)).trans (congrArg (fun z => some (Value.int .i64 z)) (hv4.out ▸ hm.out ▸ rfl))
      have x5 : w6.cell? ⟨q, 5, none⟩ = some (.int .i64 v5) := (o6.out.cm 4 (by omega)).trans (congrArg (fun z => some (Value.int .i64 z)) (hv5.out ▸ hm.out ▸ rfl))
      have x6 : w6.cell? ⟨q, 6, none⟩ = some (.int .i64 v6) := (o6.out.cm 5 (by omega)).trans (congrArg (fun z => some (Value.int .i64 z)) (hv6.out ▸ hm.out ▸ rfl))
      have x7 : w6.cell? ⟨q, 7, none⟩ = some (.int .i64 v7) := (o6.out.cm 6 (by omega)).trans (congrArg (fun z => some (Value.int .i64 z)) (hv7.out ▸ hm.out ▸ rfl))
      have x8 : w6.cell? ⟨q, 8, none⟩ = some (.int .i64 v8) := (o6.out.cm 7 (by omega)).trans (congrArg (fun z => some (Value.int .i64 z)) (hv8.out ▸ hm.out ▸ rfl))
      go_wp2_with fail
      refine bodyPost_ret (v := .tuple #[.agg #[.int .i64 K, .int .i64 v1, .int .i64 v2, .int .i64 v3, .int .i64 v4, .int .i64 v5, .int .i64 v6, .int .i64 v7, .int .i64 v8, .string v9], .bool true]) ?_ rfl ?_
      · rw [results_cell_tmp rfl]
        go_simp
      · exact ⟨by rw [a1.out, a2.out], hT.out.symm ▸ ((((((((((t6.out.set hbz.out).set hbz.out).set hbz.out).set hbz.out).set hbz.out).set hbz.out).set hbz.out).set hbz.out).set hbz.out).set hbz.out), ((((((((((k6.out.new hqn.out).new hqn.out).new hqn.out).new hqn.out).new hqn.out).new hqn.out).new hqn.out).new hqn.out).new hqn.out).new hqn.out)⟩
  · have hne : (T.e != 0) = true := by simp [he]
    obtain ⟨a1, a2⟩ := hA1.out he
    replace a1 := Lib.hid a1
    replace a2 := Lib.hid a2
    clear hA1 hA2 hA3 cm
    replace he := Lib.hid he
    have y0 := z5.out.c0
    have g0 := z5.out.fz 0
    have y1 : w5.cell? ⟨q0, 1, none⟩ = some (.int .i64 0) := z5.out.cm 0 (by omega)
    have g1 := z5.out.fz 1
    have y2 : w5.cell? ⟨q0, 2, none⟩ = some (.int .i64 0) := z5.out.cm 1 (by omega)
    have g2 := z5.out.fz 2
    have y3 : w5.cell? ⟨q0, 3, none⟩ = some (.int .i64 0) := z5.out.cm 2 (by omega)
    have g3 := z5.out.fz 3
    have y4 : w5.cell? ⟨q0, 4, none⟩ = some (.int .i64 0) := z5.out.cm 3 (by omega)
    have g4 := z5.out.fz 4
    have y5 : w5.cell? ⟨q0, 5, none⟩ = some (.int .i64 0) := z5.out.cm 4 (by omega)
    have g5 := z5.out.fz 5
    have y6 : w5.cell? ⟨q0, 6, none⟩ = some (.int .i64 0) := z5.out.cm 5 (by omega)
    have g6 := z5.out.fz 6
    have y7 : w5.cell? ⟨q0, 7, none⟩ = some (.int .i64 0) := z5.out.cm 6 (by omega)
    have g7 := z5.out.fz 7
    have y8 : w5.cell? ⟨q0, 8, none⟩ = some (.int .i64 0) := z5.out.cm 7 (by omega)
    have g8 := z5.out.fz 8
    have y9 := z5.out.c9
    have g9 := z5.out.fz 9
    clear x0 x1 x2 x3 x4 x5 x6 x7 x8 x9
    go_wp2_with fail
    refine bodyPost_ret (v := .tuple #[.agg #[.int .i64 0, .int .i64 0, .int .i64 0, .int .i64 0, .int .i64 0, .int .i64 0, .int .i64 0, .int .i64 0, .int .i64 0, .string ⟨#[]⟩], .bool false]) ?_ rfl ?_
    · rw [results_cell_tmp rfl]
      go_simp
    · exact ⟨by rw [a1.out, a2.out]; rfl, hT.out.symm ▸ ((((((((((t5.out.set hbz.out).set hbz.out).set hbz.out).set hbz.out).set hbz.out).set hbz.out).set hbz.out).set hbz.out).set hbz.out).set hbz.out), ((((((((((k5.out.new hqn.out).new hqn.out).new hqn.out).new hqn.out).new hqn.out).new hqn.out).new hqn.out).new hqn.out).new hqn.out).new hqn.out)⟩

theorem cut_zero (s : ByteArray) : cutS s 0 = s := text_inj (by rw [bytes_cut]; rfl)
theorem rfs_new (w : World) (s : ByteArray) (hs : s.size ≤ 100000) : RfS (w.alloc (.cells #[.string s, .int .i64 0, .int .i64 0] 40)) w.heap.size s ⟨s, 0⟩ :=
  ⟨⟨0, ⟨by simp, by simp, by simp, by simp, fun o => by simp⟩, Nat.zero_le _, fun _ => (cut_zero s).symm⟩, hs⟩

set_option maxHeartbeats 4000000 in
set_option maxRecDepth 100000 in
theorem refRead_any (s : ByteArray) (w : World) (hs : s.size ≤ 100000) :
    Calls Try.prog 13 #[.string s] w fun e w' => e = .returned (.tuple #[opV (readO s), .bool (readB s)]) ∧ Below w.heap.size w w' := by
  go_enter Try.func13, Try.ntmps13
  go_wp2_with fail
  have z := OpAt.new w 0 23
  have k0 := (Below.refl w.heap.size w).alloc (Nat.le_refl w.heap.size) (Obj.cells (opC opZ) 23)
  have t1 := rfs_new (w.alloc (.cells (opC opZ) 23)) s hs
  have ba := (Below.refl (w.alloc (.cells (opC opZ) 23)).heap.size (w.alloc (.cells (opC opZ) 23))).alloc (Nat.le_refl _) (Obj.cells #[.string s, .int .i64 0, .int .i64 0] 40)
  have hsz : (w.alloc (Obj.cells (opC opZ) 23)).heap.size = w.heap.size + 1 := by simp
  replace z := z.below ba
  replace k0 := k0.trans (ba.mono k0.size)
  rw [hsz] at t1
  clear ba hsz
  refine (refTake_any (w.heap.size + 1) s ⟨s, 0⟩ _ t1).mono ?_
  rintro e w2 ⟨rfl, t2, k2⟩
  have z2 := z.kept k2 (by omega)
  have k02 := k0.trans (k2.below (by omega) k0.size)
  have hA := Lib.hid (fun h => @readO_yes s h)
  rcases hv : takeA ⟨s, 0⟩ with ⟨v0, v1, v2, v3, v4, v5, v6, v7, v8, v9⟩
  have o3 := OpBox.new w2 ⟨v0, v1, v2, v3, v4, v5, v6, v7, v8, v9⟩ 23
  have bb := (Below.refl w2.heap.size w2).alloc (Nat.le_refl _) (Obj.cells (opC ⟨v0, v1, v2, v3, v4, v5, v6, v7, v8, v9⟩) 23)
  have t3 := t2.below bb
  have z3 := Lib.hid (z2.below bb)
  have k3 := Lib.hid (k02.trans (bb.mono k02.size))
  rw [hv] at hA
  replace hv := Lib.hid hv
  have hn : Hid (readB s = false → readO s = opZ) := fun h => readO_no h
  have hy : Hid (readB s = true → readO s = ⟨v0, v1, v2, v3, v4, v5, v6, v7, v8, v9⟩) := fun h => hA.out h
  obtain ⟨a, rf, ha, hr⟩ := t3.rf
  have c1 := rf.c1
  have hB : Hid (readB s = (tookB ⟨s, 0⟩ && decide ((takeT ⟨s, 0⟩).rest.size = 0))) := rfl
  have h0 : Hid (tookB ⟨s, 0⟩ = true → (takeT ⟨s, 0⟩).rest.size = s.size - a) := fun h => by
    unfold tookB at h
    simp at h
    rw [hr h.1, cutS_size]
  clear z t1 k0 t2 k2 z2 k02 bb hA t3 hr rf
  go_upto_region 3 with fail
  generalize hw3 : w2.alloc (Obj.cells (opC ⟨v0, v1, v2, v3, v4, v5, v6, v7, v8, v9⟩) 23) = w3 at *
  generalize hq : w.heap.size = q0 at *
  generalize w2.heap.size = q at *
  replace hw3 := Lib.hid hw3
  replace hq := Lib.hid hq
  replace o3 := Lib.hid o3
  generalize tookB ⟨s, 0⟩ = T at *
  cases T
  · have hb : readB s = false := hB.out
    have a1 := Lib.hid (hn.out hb)
    replace hb := Lib.hid hb
    clear hB h0 hn hy
    have y0 := z3.out.c0
    have g0 := z3.out.fz 0
    have y1 : w3.cell? ⟨q0, 1, none⟩ = some (.int .i64 0) := z3.out.cm 0 (by omega)
    have g1 := z3.out.fz 1
    have y2 : w3.cell? ⟨q0, 2, none⟩ = some (.int .i64 0) := z3.out.cm 1 (by omega)
    have g2 := z3.out.fz 2
    have y3 : w3.cell? ⟨q0, 3, none⟩ = some (.int .i64 0) := z3.out.cm 2 (by omega)
    have g3 := z3.out.fz 3
    have y4 : w3.cell? ⟨q0, 4, none⟩ = some (.int .i64 0) := z3.out.cm 3 (by omega)
    have g4 := z3.out.fz 4
    have y5 : w3.cell? ⟨q0, 5, none⟩ = some (.int .i64 0) := z3.out.cm 4 (by omega)
    have g5 := z3.out.fz 5
    have y6 : w3.cell? ⟨q0, 6, none⟩ = some (.int .i64 0) := z3.out.cm 5 (by omega)
    have g6 := z3.out.fz 6
    have y7 : w3.cell? ⟨q0, 7, none⟩ = some (.int .i64 0) := z3.out.cm 6 (by omega)
    have g7 := z3.out.fz 7
    have y8 : w3.cell? ⟨q0, 8, none⟩ = some (.int .i64 0) := z3.out.cm 7 (by omega)
    have g8 := z3.out.fz 8
    have y9 := z3.out.c9
    have g9 := z3.out.fz 9
    go_wp2_with fail
    refine bodyPost_ret (v := .tuple #[.agg #[.int .i64 0, .int .i64 0, .int .i64 0, .int .i64 0, .int .i64 0, .int .i64 0, .int .i64 0, .int .i64 0, .int .i64 0, .string ⟨#[]⟩], .bool false]) ?_ rfl ?_
    · rw [results_cell_tmp rfl]
      go_simp
    · exact ⟨by rw [a1.out, hb.out]; rfl, by rw [hq.out]; exact (bset (bset (bset (bset (bset (bset (bset (bset (bset (bset k3.out (Nat.le_refl q0)) (Nat.le_refl q0)) (Nat.le_refl q0)) (Nat.le_refl q0)) (Nat.le_refl q0)) (Nat.le_refl q0)) (Nat.le_refl q0)) (Nat.le_refl q0)) (Nat.le_refl q0)) (Nat.le_refl q0))⟩
  · have hrs := h0.out rfl
    by_cases hr : (a : Int) = s.size
    · have hb : readB s = true := by rw [hB.out, hrs, Bool.true_and]; exact decide_eq_true (by omega)
      have hne : ((a : Int) != s.size) = false := by simp [hr]
      have a1 := Lib.hid (hy.out hb)
      replace hb := Lib.hid hb
      clear hB h0 hn hy hrs
      replace hr := Lib.hid hr
      have x0 : w3.cell? ⟨q, 0, none⟩ = some (.int .i64 v0) := o3.out.cell 0 _ rfl
      obtain ⟨x1, x2, x3, x4, x5, x6, x7, x8, x9⟩ := o3.out.nine
      have y0 := z3.out.c0
      have g0 := z3.out.fz 0
      have y1 : w3.cell? ⟨q0, 1, none⟩ = some (.int .i64 0) := z3.out.cm 0 (by omega)
      have g1 := z3.out.fz 1
      have y2 : w3.cell? ⟨q0, 2, none⟩ = some (.int .i64 0) := z3.out.cm 1 (by omega)
      have g2 := z3.out.fz 2
      have y3 : w3.cell? ⟨q0, 3, none⟩ = some (.int .i64 0) := z3.out.cm 2 (by omega)
      have g3 := z3.out.fz 3
      have y4 : w3.cell? ⟨q0, 4, none⟩ = some (.int .i64 0) := z3.out.cm 3 (by omega)
      have g4 := z3.out.fz 4
      have y5 : w3.cell? ⟨q0, 5, none⟩ = some (.int .i64 0) := z3.out.cm 4 (by omega)
      have g5 := z3.out.fz 5
      have y6 : w3.cell? ⟨q0, 6, none⟩ = some (.int .i64 0) := z3.out.cm 5 (by omega)
      have g6 := z3.out.fz 6
      have y7 : w3.cell? ⟨q0, 7, none⟩ = some (.int .i64 0) := z3.out.cm 6 (by omega)
      have g7 := z3.out.fz 7
      have y8 : w3.cell? ⟨q0, 8, none⟩ = some (.int .i64 0) := z3.out.cm 7 (by omega)
      have g8 := z3.out.fz 8
      have y9 := z3.out.c9
      have g9 := z3.out.fz 9
      go_wp2_with fail
      refine bodyPost_ret (v := .tuple #[.agg #[.int .i64 v0, .int .i64 v1, .int .i64 v2, .int .i64 v3, .int .i64 v4, .int .i64 v5, .int .i64 v6, .int .i64 v7, .int .i64 v8, .string v9], .bool true]) ?_ rfl ?_
      · rw [results_cell_tmp rfl]
        go_simp
      · exact ⟨by rw [a1.out, hb.out], by rw [hq.out]; exact (bset (bset (bset (bset (bset (bset (bset (bset (bset (bset k3.out (Nat.le_refl q0)) (Nat.le_refl q0)) (Nat.le_refl q0)) (Nat.le_refl q0)) (Nat.le_refl q0)) (Nat.le_refl q0)) (Nat.le_refl q0)) (Nat.le_refl q0)) (Nat.le_refl q0)) (Nat.le_refl q0))⟩
    · have hb : readB s = false := by rw [hB.out, hrs, Bool.true_and]; exact decide_eq_false (by omega)
      have hne : ((a : Int) != s.size) = true := by simp [hr]
      have a1 := Lib.hid (hn.out hb)
      replace hb := Lib.hid hb
      clear hB h0 hn hy hrs
      replace hr := Lib.hid hr
      have y0 := z3.out.c0
      have g0 := z3.out.fz 0
      have y1 : w3.cell? ⟨q0, 1, none⟩ = some (.int .i64 0) := z3.out.cm 0 (by omega)
      have g1 := z3.out.fz 1
      have y2 : w3.cell? ⟨q0, 2, none⟩ = some (.int .i64 0) := z3.out.cm 1 (by omega)
      have g2 := z3.out.fz 2
      have y3 : w3.cell? ⟨q0, 3, none⟩ = some (.int .i64 0) := z3.out.cm 2 (by omega)
      have g3 := z3.out.fz 3
      have y4 : w3.cell? ⟨q0, 4, none⟩ = some (.int .i64 0) := z3.out.cm 3 (by omega)
      have g4 := z3.out.fz 4
      have y5 : w3.cell? ⟨q0, 5, none⟩ = some (.int .i64 0) := z3.out.cm 4 (by omega)
      have g5 := z3.out.fz 5
      have y6 : w3.cell? ⟨q0, 6, none⟩ = some (.int .i64 0) := z3.out.cm 5 (by omega)
      have g6 := z3.out.fz 6
      have y7 : w3.cell? ⟨q0, 7, none⟩ = some (.int .i64 0) := z3.out.cm 6 (by omega)
      have g7 := z3.out.fz 7
      have y8 : w3.cell? ⟨q0, 8, none⟩ = some (.int .i64 0) := z3.out.cm 7 (by omega)
      have g8 := z3.out.fz 8
      have y9 := z3.out.c9
      have g9 := z3.out.fz 9
      go_wp2_with fail
      refine bodyPost_ret (v := .tuple #[.agg #[.int .i64 0, .int .i64 0, .int .i64 0, .int .i64 0, .int .i64 0, .int .i64 0, .int .i64 0, .int .i64 0, .int .i64 0, .string ⟨#[]⟩], .bool false]) ?_ rfl ?_
      · rw [results_cell_tmp rfl]
        go_simp
      · exact ⟨by rw [a1.out, hb.out]; rfl, by rw [hq.out]; exact (bset (bset (bset (bset (bset (bset (bset (bset (bset (bset k3.out (Nat.le_refl q0)) (Nat.le_refl q0)) (Nat.le_refl q0)) (Nat.le_refl q0)) (Nat.le_refl q0)) (Nat.le_refl q0)) (Nat.le_refl q0)) (Nat.le_refl q0)) (Nat.le_refl q0)) (Nat.le_refl q0))⟩
end Go.Proofs.Ytaemoojhmknicaa
