/-
  Layer 10: Print: an operation's bytes, or none; and the document's own. Condition: a text of at most 100000 bytes.
-/
import Derived.Test.YtaemoojhmknicaaPPut
set_option linter.unusedVariables false
namespace Go.Proofs.Ytaemoojhmknicaa
open Go.RowKit Cod

def printS (o : OpN) : ByteArray := if okOp o = true then opB o else ⟨#[]⟩
def printE (o : OpN) : Int := if okOp o = true then 0 else 1

set_option maxHeartbeats 1000000 in
set_option maxRecDepth 100000 in
theorem print_any (o : OpN) (w : World) (hi : OpI o) (hc : o.cron.size ≤ 100000) :
    Calls Try.prog 8 #[opV o] w fun e w' => e = .returned (.tuple #[.string (printS o), .int .i64 (printE o)]) ∧ Below w.heap.size w w' := by
  cases ho : okOp o
  · have e1 : Hid (printS o = ⟨#[]⟩) := by show _ = _; rw [printS, ho]; rfl
    have e2 : Hid (printE o = 1) := by show _ = _; rw [printE, ho]; rfl
    have cm := Lib.hid (mayBe_any o (w.alloc (.cells (opC o) 23)) hc)
    rw [ho] at cm
    go_enter Try.func8, Try.ntmps8
    go_wp2_with fail
    refine cm.out.mono ?_
    rintro e w1 ⟨rfl, b1⟩
    have b2 := Lib.hid (((Below.refl _ _).alloc (Nat.le_refl w.heap.size) _).trans (b1.mono (by simp)))
    clear b1
    go_wp2_with fail
    go_ret2
    exact ⟨by rw [e1.out, e2.out]; rfl, b2.out⟩
  · have e1 : Hid (printS o = opB o) := by show _ = _; rw [printS, ho]; rfl
    have e2 : Hid (printE o = 0) := by show _ = _; rw [printE, ho]; rfl
    have cm := Lib.hid (mayBe_any o (w.alloc (.cells (opC o) 23)) hc)
    rw [ho] at cm
    go_enter Try.func8, Try.ntmps8
    go_wp2_with fail
    refine cm.out.mono ?_
    rintro e w1 ⟨rfl, b1⟩
    have b2 := Lib.hid (((Below.refl _ _).alloc (Nat.le_refl w.heap.size) _).trans (b1.mono (by simp)))
    have hbox := Lib.hid ((OpBox.new w o 23).below b1)
    have q0 := hbox.out.cell 0 _ rfl
    obtain ⟨q1, q2, q3, q4, q5, q6, q7, q8, q9⟩ := hbox.out.nine
    clear b1
    go_wp2_with fail
    refine (put_any o _ ho hi).mono ?_
    rintro e w2 ⟨rfl, b3⟩
    replace b2 := Lib.hid (b2.out.trans (b3.mono b2.out.size))
    clear b3 q0 q1 q2 q3 q4 q5 q6 q7 q8 q9
    go_wp2_with fail
    go_ret2
    exact ⟨by rw [e1.out, e2.out]; rfl, b2.out⟩

set_option maxHeartbeats 4000000 in
set_option maxRecDepth 100000 in
theorem refPrint_any (o : OpN) (w : World) (ho : okOp o = true) (hi : OpI o) :
    Calls Try.prog 11 #[opV o] w fun e w' => e = .returned (.string (opB o)) ∧ Below w.heap.size w w' := by
  obtain ⟨h0, h3, hc⟩ := (okOp_iff o).1 ho
  have hwk : IntKind.u8.wrap o.kind = o.kind := by rw [IntKind.wrap_u8]; omega
  have hk := kind_run o w h0 h3
  go_enter Try.func11, Try.ntmps11
  go_upto_region 2 with fail
  clear hk hwk
  have hbox := Lib.hid ((OpBox.new w o 23).below ((Below.refl _ _).alloc (Nat.le_refl _) (Obj.cells #[.int .u8 o.kind] 5)))
  have b2 : Hid (Below w.heap.size w ((w.alloc (Obj.cells (opC o) 23)).alloc (Obj.cells #[.int .u8 o.kind] 5))) := ((Below.refl _ _).alloc (Nat.le_refl _) _).alloc (by simp) _
  generalize (w.alloc (Obj.cells (opC o) 23)).alloc (Obj.cells #[.int .u8 o.kind] 5) = w2 at *
  have c1 : Hid (∀ X, Calls Try.prog 20 #[.int .i64 o.client] X fun e w' => e = .returned (.string (encB (zig o.client))) ∧ Below X.heap.size X w') := fun X => refInt_any _ X hi.client.1 hi.client.2
  have c2 : Hid (∀ X, Calls Try.prog 20 #[.int .i64 o.req] X fun e w' => e = .returned (.string (encB (zig o.req))) ∧ Below X.heap.size X w') := fun X => refInt_any _ X hi.req.1 hi.req.2
  have c3 : Hid (∀ X, Calls Try.prog 20 #[.int .i64 o.id] X fun e w' => e = .returned (.string (encB (zig o.id))) ∧ Below X.heap.size X w') := fun X => refInt_any _ X hi.id.1 hi.id.2
  have c4 : Hid (∀ X, Calls Try.prog 20 #[.int .i64 o.gen] X fun e w' => e = .returned (.string (encB (zig o.gen))) ∧ Below X.heap.size X w') := fun X => refInt_any _ X hi.gen.1 hi.gen.2
  have c5 : Hid (∀ X, Calls Try.prog 20 #[.int .i64 o.occ] X fun e w' => e = .returned (.string (encB (zig o.occ))) ∧ Below X.heap.size X w') := fun X => refInt_any _ X hi.occ.1 hi.occ.2
  have c6 : Hid (∀ X, Calls Try.prog 20 #[.int .i64 o.due] X fun e w' => e = .returned (.string (encB (zig o.due))) ∧ Below X.heap.size X w') := fun X => refInt_any _ X hi.due.1 hi.due.2
  have c7 : Hid (∀ X, Calls Try.prog 20 #[.int .i64 o.stamp] X fun e w' => e = .returned (.string (encB (zig o.stamp))) ∧ Below X.heap.size X w') := fun X => refInt_any _ X hi.stamp.1 hi.stamp.2
  have c8 : Hid (∀ X, Calls Try.prog 20 #[.int .i64 o.epoch] X fun e w' => e = .returned (.string (encB (zig o.epoch))) ∧ Below X.heap.size X w') := fun X => refInt_any _ X hi.epoch.1 hi.epoch.2
  have cS : Hid (∀ X, Calls Try.prog 21 #[.string o.cron] X fun e w' => e = .returned (.string (strB o.cron)) ∧ Below X.heap.size X w') := fun X => refStr_any o.cron X (by omega)
  have hres : Hid (opB o = kindB o.kind ++ (encB (zig o.client) ++ encB (zig o.req) ++ encB (zig o.id) ++ encB (zig o.gen)) ++ (encB (zig o.occ) ++ encB (zig o.due) ++ encB (zig o.stamp) ++ encB (zig o.epoch)) ++ strB o.cron) := by
    show _ = _
    unfold opB numsOf numsB numsB numsB numsB numsB numsB numsB numsB numsB
    simp only [app_assoc, app_none]
  have z0 : (kindB o.kind).size = 1 := rfl
  have zS : (strB o.cron).size ≤ 1000 := by have := enc_size (n := o.cron.size) (by omega); rw [strB, size_append']; omega
  have z1 := enc_size (zig_lt hi.client.1 hi.client.2)
  have z2 := enc_size (zig_lt hi.req.1 hi.req.2)
  have z3 := enc_size (zig_lt hi.id.1 hi.id.2)
  have z4 := enc_size (zig_lt hi.gen.1 hi.gen.2)
  have z5 := enc_size (zig_lt hi.occ.1 hi.occ.2)
  have z6 := enc_size (zig_lt hi.due.1 hi.due.2)
  have z7 := enc_size (zig_lt hi.stamp.1 hi.stamp.2)
  have z8 := enc_size (zig_lt hi.epoch.1 hi.epoch.2)
  have hS : Hid (∀ W, Below w2.heap.size w2 W → Nine w.heap.size o W) := fun W k => (hbox.out.below k).nine
  clear ho hc h0 h3 hbox hi
  generalize kindB o.kind = S0 at *
  generalize encB (zig o.client) = S1 at *
  generalize encB (zig o.req) = S2 at *
  generalize encB (zig o.id) = S3 at *
  generalize encB (zig o.gen) = S4 at *
  generalize encB (zig o.occ) = S5 at *
  generalize encB (zig o.due) = S6 at *
  generalize encB (zig o.stamp) = S7 at *
  generalize encB (zig o.epoch) = S8 at *
  generalize strB o.cron = SS at *
  have y1 : ¬ 9223372036854775807 < S1.size + S2.size := by omega
  have y2 : ¬ 9223372036854775807 < S1.size + S2.size + S3.size := by omega
  have y3 : ¬ 9223372036854775807 < S1.size + S2.size + S3.size + S4.size := by omega
  have y4 : ¬ 9223372036854775807 < S0.size + (S1.size + S2.size + S3.size + S4.size) := by omega
  have y5 : ¬ 9223372036854775807 < S5.size + S6.size := by omega
  have y6 : ¬ 9223372036854775807 < S5.size + S6.size + S7.size := by omega
  have y7 : ¬ 9223372036854775807 < S5.size + S6.size + S7.size + S8.size := by omega
  have y8 : ¬ 9223372036854775807 < S0.size + (S1.size + S2.size + S3.size + S4.size) + (S5.size + S6.size + S7.size + S8.size) := by omega
  have y9 : ¬ 9223372036854775807 < S0.size + (S1.size + S2.size + S3.size + S4.size) + (S5.size + S6.size + S7.size + S8.size) + SS.size := by omega
  clear z0 zS z1 z2 z3 z4 z5 z6 z7 z8
  go_cut [3] from 26 (fun v wc => v = .string (S0 ++ (S1 ++ S2 ++ S3 ++ S4)) ∧ Hid (Below w2.heap.size w2 wc))
  case first =>
    have hb : Hid (Below w2.heap.size w2 w2.drew) := (Below.refl _ _).drew
    obtain ⟨q1, q2, q3, q4, q5, q6, q7, q8, q9⟩ := hS.out w2 (Below.refl _ _)
    clear y5 y6 y7 y8 y9 q5 q6 q7 q8 q9
    go_region_held3 (fun w' => w'.cell? ⟨w.heap.size, 1, none⟩ = some (.int .i64 o.client) ∧ w'.cell? ⟨w.heap.size, 2, none⟩ = some (.int .i64 o.req) ∧ w'.cell? ⟨w.heap.size, 3, none⟩ = some (.int .i64 o.id) ∧ w'.cell? ⟨w.heap.size, 4, none⟩ = some (.int .i64 o.gen))
      (first | (exact ⟨(hS.out _ hb.out).1, (hS.out _ hb.out).2.1, (hS.out _ hb.out).2.2.1, (hS.out _ hb.out).2.2.2.1⟩) | go_keep)
      (first
        | (go_at_call 20; (with_reducible refine (c1.out _).mono ?_); rintro e w6 ⟨rfl, k6⟩; replace hb := Lib.hid (hb.out.trans (k6.mono hb.out.size)); clear k6)
        | (go_at_call 20; (with_reducible refine (c2.out _).mono ?_); rintro e w6 ⟨rfl, k6⟩; replace hb := Lib.hid (hb.out.trans (k6.mono hb.out.size)); clear k6)
        | (go_at_call 20; (with_reducible refine (c3.out _).mono ?_); rintro e w6 ⟨rfl, k6⟩; replace hb := Lib.hid (hb.out.trans (k6.mono hb.out.size)); clear k6)
        | (go_at_call 20; (with_reducible refine (c4.out _).mono ?_); rintro e w6 ⟨rfl, k6⟩; replace hb := Lib.hid (hb.out.trans (k6.mono hb.out.size)); clear k6))
    all_goals
      go_wp2_with fail
      go_meet
      exact ⟨rfl, hb⟩
  case rest =>
    obtain ⟨rfl, b3⟩ := hcut
    replace b2 := Lib.hid (b2.out.trans (b3.out.mono b2.out.size))
    replace hS : Hid (∀ W, Below wc.heap.size wc W → Nine w.heap.size o W) := fun W k => hS.out W (b3.out.trans (k.mono b3.out.size))
    clear y1 y2 y3 y4 b3
    obtain ⟨w3, hw3⟩ : ∃ x, x = wc := ⟨_, rfl⟩
    subst hw3
    go_upto_region 3 with fail
    go_cut [3] from 43 (fun v we => v = .string (S0 ++ (S1 ++ S2 ++ S3 ++ S4) ++ (S5 ++ S6 ++ S7 ++ S8)) ∧ Hid (Below w3.heap.size w3 we))
    case first =>
      have hb : Hid (Below w3.heap.size w3 w3.drew) := (Below.refl _ _).drew
      obtain ⟨q1, q2, q3, q4, q5, q6, q7, q8, q9⟩ := hS.out w3 (Below.refl _ _)
      clear y9 q1 q2 q3 q4 q9
      go_region_held3 (fun w' => w'.cell? ⟨w.heap.size, 5, none⟩ = some (.int .i64 o.occ) ∧ w'.cell? ⟨w.heap.size, 6, none⟩ = some (.int .i64 o.due) ∧ w'.cell? ⟨w.heap.size, 7, none⟩ = some (.int .i64 o.stamp) ∧ w'.cell? ⟨w.heap.size, 8, none⟩ = some (.int .i64 o.epoch))
        (first | (exact ⟨(hS.out _ hb.out).2.2.2.2.1, (hS.out _ hb.out).2.2.2.2.2.1, (hS.out _ hb.out).2.2.2.2.2.2.1, (hS.out _ hb.out).2.2.2.2.2.2.2.1⟩) | go_keep)
        (first
          | (go_at_call 20; (with_reducible refine (c5.out _).mono ?_); rintro e w6 ⟨rfl, k6⟩; replace hb := Lib.hid (hb.out.trans (k6.mono hb.out.size)); clear k6)
          | (go_at_call 20; (with_reducible refine (c6.out _).mono ?_); rintro e w6 ⟨rfl, k6⟩; replace hb := Lib.hid (hb.out.trans (k6.mono hb.out.size)); clear k6)
          | (go_at_call 20; (with_reducible refine (c7.out _).mono ?_); rintro e w6 ⟨rfl, k6⟩; replace hb := Lib.hid (hb.out.trans (k6.mono hb.out.size)); clear k6)
          | (go_at_call 20; (with_reducible refine (c8.out _).mono ?_); rintro e w6 ⟨rfl, k6⟩; replace hb := Lib.hid (hb.out.trans (k6.mono hb.out.size)); clear k6))
      all_goals
        go_wp2_with fail
        go_meet
        exact ⟨rfl, hb⟩
    case rest =>
      obtain ⟨rfl, b3⟩ := hcut
      replace b2 := Lib.hid (b2.out.trans (b3.out.mono b2.out.size))
      have q9 := (hS.out wc b3.out).2.2.2.2.2.2.2.2
      clear hS b3
      go_wp2_with fail
      refine (cS.out _).mono ?_
      rintro e w6 ⟨rfl, k6⟩
      replace b2 := Lib.hid (b2.out.trans (k6.mono b2.out.size))
      clear q9 k6
      go_wp2_with fail
      go_ret
      exact ⟨by rw [hres.out]; rfl, b2.out⟩
end Go.Proofs.Ytaemoojhmknicaa
