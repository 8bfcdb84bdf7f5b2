/-
  stable.Log's Append, Crash and Size: what they answer, what the log's bytes are then, and that of all that was there only the log's own blocks have turned.
-/
import Derived.Test.YtdkdkkledlolcaaSLog
import Derived.Deep.RegionLaw
namespace Go.Proofs.Ytdkdkkledlolcaa
open Go.RowKit
set_option maxRecDepth 100000
variable {base : Nat}

theorem step_append_at {P : Program} {ops : Array Oper} {o : Oper} {a : Act} {w : World} {K : Act → World → Prop} {Q : Exit → Act → World → Prop} {E : Prop}
    (hg : o.guard = none) (d x : Operand) (dT sT : TypeId) (hop : o.op = Op.call { callee := Callee.builtin Builtin.append, args := #[d, x], argTypes := #[dT, sT] })
    (v u : Value) (hd : a.eval d = v) (hx : a.eval x = u) {v' : Value} {w' : World} (hr : (Builtin.append_ #[dT, sT] o.type #[v, u]).run P w = .ok v' w') (hK : K (a.put o.dst v') w') :
    if Region.wanted o (yielded ops a.tmps) = true then Oper.wp P o a w K Q else E := by
  have hw : Region.wanted o (yielded ops a.tmps) = true := by simp [Region.wanted, hg]
  rw [if_pos hw]
  unfold Oper.wp
  simp [execOp, hop, resolve, invoke, builtin, hd, hx, hr, Result.andThen]
  exact hK

theorem wpList_append_at {P : Program} {ops : Array Oper} {rest : List Oper} {o : Oper} {a : Act} {w : World} {Q : Exit → Act → World → Prop} (hgd : o.guard = none) (d x : Operand) (dT sT : TypeId)
    (ho : o.op = .call { callee := .builtin .append, args := #[d, x], argTypes := #[dT, sT] }) (v u : Value) (hd : a.eval d = v) (hx : a.eval x = u) {v' : Value} {w' : World}
    (hr : (Builtin.append_ #[dT, sT] o.type #[v, u]).run P w = .ok v' w') (h : wpList P ops Q rest (a.put o.dst v') w') : wpList P ops Q (o :: rest) a w := by
  refine wpList_plain hgd fun K hK => ?_
  unfold Oper.wp execOp
  simp only [ho, resolve, invoke, builtin, Sem.run_bind, Sem.run_pure, Result.andThen_ok, List.map_toArray, List.map_cons, List.map_nil, hd, hx, hr]
  exact hK _ _ h

/-- The bytes behind an Append. -/
def appS (S : ByteArray) (torn : Bool) (s : ByteArray) : ByteArray := if errS S torn s = 0 then S ++ recB s else S
/-- How many bytes a crash keeps. -/
def keepN (keep : Int) (n : Nat) : Nat := (min (max keep 0) (n : Int)).toNat
theorem keepN_int (keep : Int) (n : Nat) : min (max keep 0) (n : Int) = (keepN keep n : Nat) := by
  unfold keepN; omega
theorem keepN_le (keep : Int) (n : Nat) : keepN keep n ≤ n := by unfold keepN; omega
def crS (S : ByteArray) (torn : Bool) (s : ByteArray) (keep : Int) : ByteArray := if errS S torn s = 0 then S ++ (recB s).extract 0 (keepN keep (recB s).size) else S
def crT (S : ByteArray) (torn : Bool) (s : ByteArray) : Bool := if errS S torn s = 0 then true else torn

theorem Lg.drew {w : World} {b : Nat} {S : ByteArray} {torn : Bool} {p : Option Addr} {cap : Nat} (t : Lg base w b S torn p cap) : Lg base w.drew b S torn p cap := t.same rfl fun _ _ => rfl

set_option maxHeartbeats 800000 in
theorem append_any (w : World) (b : Nat) (S s : ByteArray) (torn : Bool) (p : Option Addr) (cap : Nat) (t : Lg base w b S torn p cap) :
    Calls Try.prog 11 #[.pointer (some ⟨b, 0, none⟩), .string s] w fun e w' => e = .returned (.int .i64 (errS S torn s : Nat)) ∧ (∃ p' cap', Lg base w' b (appS S torn s) torn p' cap') ∧ Turn b (.slice p S.size cap) w w' := by
  have hf := Lib.hid (fit_any w b S s torn p cap t)
  by_cases h0 : errS S torn s = 0
  · obtain ⟨hs1, rfl, hs2⟩ := errS_zero h0
    have ha : Hid (appS S false s = S ++ recB s) := by show appS _ _ _ = _; rw [appS, if_pos h0]
    rw [h0] at hf ⊢
    replace t := Lib.hid t
    go_enter Try.func11, Try.ntmps11
    go_wp2_with fail
    refine hf.out.mono ?_
    rintro e w1 ⟨x, rfl, hx, b1⟩
    obtain rfl := hx (by simp)
    have t1 := t.out.below b1
    obtain ⟨p', cap', w2, hrun, c2, f2, t2, T2⟩ := push w1 b S (recB s) false p cap t1 hs2
    have c1 := t1.c0
    replace hrun := Lib.hid (hrun 47)
    replace b1 := Lib.hid b1
    replace t2 := Lib.hid t2
    replace T2 := Lib.hid T2
    replace t1 := Lib.hid t1
    clear hf hx
    generalize recB s = X at *
    go_wp2_with (at_builtin; refine wpList_append_at rfl _ _ 47 9 rfl _ _ rfl rfl hrun.out ?_)
    go_ret
    exact ⟨rfl, ⟨p', cap', by rw [ha.out]; exact t2.out⟩, T2.out.after b1.out⟩
  · have ha : Hid (appS S torn s = S) := by show appS _ _ _ = _; rw [appS, if_neg h0]
    have e0 : ((errS S torn s : Int) == 0) = false := by simpa using h0
    replace h0 := Lib.hid h0
    generalize errS S torn s = x at *
    replace t := Lib.hid t
    go_enter Try.func11, Try.ntmps11
    go_wp2_with fail
    refine hf.out.mono ?_
    rintro e w1 ⟨y, rfl, -, b1⟩
    replace b1 := Lib.hid b1
    clear hf
    go_wp2_with fail
    go_ret
    exact ⟨rfl, ⟨p, cap, by rw [ha.out]; exact t.out.below b1.out⟩, Turn.ofBelow b1.out⟩

set_option maxHeartbeats 1600000 in
theorem crash_any (w : World) (b : Nat) (S s : ByteArray) (torn : Bool) (p : Option Addr) (cap : Nat) (keep : Int) (t : Lg base w b S torn p cap) :
    Calls Try.prog 13 #[.pointer (some ⟨b, 0, none⟩), .string s, .int .i64 keep] w fun e w' => e = .returned (.int .i64 (errS S torn s : Nat)) ∧ (∃ p' cap', Lg base w' b (crS S torn s keep) (crT S torn s) p' cap') ∧ Turn b (.slice p S.size cap) w w' := by
  have hf := Lib.hid (fit_any w b S s torn p cap t)
  by_cases h0 : errS S torn s = 0
  · obtain ⟨hs1, rfl, hs2⟩ := errS_zero h0
    have ha : Hid (crS S false s keep = S ++ (recB s).extract 0 (keepN keep (recB s).size)) := by show crS _ _ _ _ = _; rw [crS, if_pos h0]
    have ha2 : Hid (crT S false s = true) := by show crT _ _ _ = _; rw [crT, if_pos h0]
    rw [h0] at hf ⊢
    replace t := Lib.hid t
    have hkn := keepN_int keep (recB s).size
    have hkl := keepN_le keep (recB s).size
    generalize keepN keep (recB s).size = m at *
    have hxs : ((recB s).extract 0 m).size = m := D.size_take _ _ hkl
    go_enter Try.func13, Try.ntmps13
    go_wp2_with fail
    refine hf.out.mono ?_
    rintro e w1 ⟨x, rfl, hx, b1⟩
    obtain rfl := hx (by simp)
    have t1 := t.out.below b1
    obtain ⟨p', cap', w2, hrun, c2, f2, t2, T2⟩ := push w1.drew b S ((recB s).extract 0 m) false p cap t1.drew (by omega)
    have c1 := t1.c0
    replace hrun := Lib.hid (hrun 47)
    have c3 := t2.c1
    have f3 := t2.fz 1
    have t3 := Lib.hid (t2.setTorn true)
    have T3 := Lib.hid (T2.setCell 1 (.bool true))
    replace b1 := Lib.hid b1
    replace t1 := Lib.hid t1
    clear hf hx t2 T2
    clear hxs
    generalize hXX : (recB s).extract 0 m = X at *
    generalize recB s = Y at *
    have hm0 : (0 : Int) ≤ (m : Int) := by omega
    have hm1 : (m : Int) ≤ (Y.size : Int) := by omega
    go_wp2_with fail
    go_region_law (refine step_append_at (by rfl) _ _ 47 9 (by rfl) _ _ (by rfl) (by rfl) hrun.out ?_)
    all_goals
      clear hrun c2 f2 c1
      generalize w2.setCell ⟨b, 0, none⟩ (.slice p' (S.size + X.size) cap') = w9 at *
      go_wp2_with fail
      go_ret
      exact ⟨rfl, ⟨p', cap', by rw [ha.out, ha2.out]; exact t3.out⟩, Turn.after b1.out ⟨T3.out.os, T3.out.tape, T3.out.output, T3.out.size, T3.out.block⟩⟩
  · have ha : Hid (crS S torn s keep = S) := by show crS _ _ _ _ = _; rw [crS, if_neg h0]
    have ha2 : Hid (crT S torn s = torn) := by show crT _ _ _ = _; rw [crT, if_neg h0]
    have e0 : ((errS S torn s : Int) == 0) = false := by simpa using h0
    replace h0 := Lib.hid h0
    generalize errS S torn s = x at *
    replace t := Lib.hid t
    go_enter Try.func13, Try.ntmps13
    go_wp2_with fail
    refine hf.out.mono ?_
    rintro e w1 ⟨y, rfl, -, b1⟩
    replace b1 := Lib.hid b1
    clear hf
    go_wp2_with fail
    go_ret
    exact ⟨rfl, ⟨p, cap, by rw [ha.out, ha2.out]; exact t.out.below b1.out⟩, Turn.ofBelow b1.out⟩

theorem size_any (w : World) (b : Nat) (S : ByteArray) (torn : Bool) (p : Option Addr) (cap : Nat) (t : Lg base w b S torn p cap) :
    Calls Try.prog 19 #[.pointer (some ⟨b, 0, none⟩)] w fun e w' => e = .returned (.int .i64 (S.size : Nat)) ∧ w = w' := by
  have c0 := t.c0
  replace t := Lib.hid t
  go_enter Try.func19, Try.ntmps19
  go_wp2
  go_ret
  exact ⟨rfl, rfl⟩
end Go.Proofs.Ytdkdkkledlolcaa
