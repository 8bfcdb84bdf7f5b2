/-
  Layer 11 (no walk): what Take reads of bytes, the program's way and the document's; they agree, and what is printed is read as it was. Condition: none.
-/
import Derived.Test.YtnagidgffkffhaaGPut
import Derived.Test.YtnagidgffkffhaaBack
import Derived.Test.YtnagidgffkffhaaReads
set_option linter.unusedVariables false
set_option linter.unusedSimpArgs false
namespace Go.Proofs.Ytnagidgffkffhaa.G
open Go.RowKit Cod Cfg
def w64 (n : Int) : Int := IntKind.i64.wrap n
theorem w64_small {n : Int} (h0 : 0 ≤ n) (h1 : n < 9223372036854775808) : w64 n = n := IntWalk.i64_in _ (by omega)
theorem w64_of {n : Int} (h0 : 0 ≤ n) (h1 : n < 18446744073709551616) (h2 : 0 ≤ w64 n) : w64 n = n := by
  by_cases h : n < 9223372036854775808
  · exact w64_small h0 h
  · exfalso
    have e : w64 n = n - 18446744073709551616 := by
      show IntKind.i64.wrap n = _
      rw [IntKind.wrap_i64]
      omega
    omega
/-! The program's. -/
def seatS (st : St) : StN × St :=
  (⟨⟨w64 (uintS st).1, w64 (uintS (uintS st).2).1⟩, decide ((byteS (uintS (uintS st).2).2).1 = 1)⟩,
    if 1 < (byteS (uintS (uintS st).2).2).1 then failS (byteS (uintS (uintS st).2).2).2 3 else (byteS (uintS (uintS st).2).2).2)
def runS : Nat → St → List StN × St
  | 0, st => ([], st)
  | k + 1, st => if st.e = 0 then ((seatS st).1 :: (runS k (seatS st).2).1, (runS k (seatS st).2).2) else ([], st)
def endE (c : CfN) (st : St) : St := if rightN c = true then st else failS st 3
def endS (c : CfN) (st : St) : CfN × St := if (endE c st).e = 0 then (c, endE c st) else (zeroN, endE c st)
def takeP (st : St) : CfN × St :=
  if 8 < (uintS (uintS st).2).1 then (zeroN, failS (uintS (uintS st).2).2 3)
  else endS ⟨w64 (uintS st).1, (runS (uintS (uintS st).2).1.toNat (uintS (uintS st).2).2).1⟩ (runS (uintS (uintS st).2).1.toNat (uintS (uintS st).2).2).2
/-! The document's. -/
def countS (st : St) : Int × St := if 1099511627776 < (uintS st).1 then (0, failS (uintS st).2 3) else uintS st
def runR : Nat → St → Option (List StN × St)
  | 0, st => some ([], st)
  | k + 1, st => if 1 < (byteS (countS (countS st).2).2).1 then none else (runR k (byteS (countS (countS st).2).2).2).map fun x => (⟨⟨(countS st).1, (countS (countS st).2).1⟩, decide ((byteS (countS (countS st).2).2).1 = 1)⟩ :: x.1, x.2)
def goodR (e : Int) (x : List StN × St) : Option (CfN × St) := if x.2.e = 0 ∧ rightN ⟨e, x.1⟩ = true then some (⟨e, x.1⟩, x.2) else none
def takeR (st : St) : Option (CfN × St) :=
  if 8 < (countS (countS st).2).1 then none else (runR (countS (countS st).2).1.toNat (countS (countS st).2).2).bind (goodR (countS st).1)
/-! An error stays. -/
theorem uint_stick {st : St} (h : (uintS st).2.e = 0) : st.e = 0 := by
  by_cases h0 : st.e = 0
  · exact h0
  · rw [uintS_err h0] at h; exact h
theorem byte_stick {st : St} (h : (byteS st).2.e = 0) : st.e = 0 := by
  by_cases h0 : st.e = 0
  · exact h0
  · rw [byteS_err h0] at h; exact h
theorem fail_ne (st : St) {x : Int} (hx : x ≠ 0) : (failS st x).e ≠ 0 := by
  unfold failS
  by_cases h : st.e = 0
  · simp only [h, if_true]; exact hx
  · simp only [if_neg h]; exact h
theorem uint_ge (st : St) : 0 ≤ (uintS st).1 ∧ (uintS st).1 < 18446744073709551616 := by
  obtain ⟨d, h, h1⟩ := uintS_nat st
  rw [h]; omega
theorem count_of {st : St} (h : (countS st).2.e = 0) : countS st = uintS st ∧ (uintS st).1 ≤ 1099511627776 := by
  unfold countS at h ⊢
  by_cases h1 : 1099511627776 < (uintS st).1
  · rw [if_pos h1] at h
    exact absurd h (fail_ne _ (by decide))
  · rw [if_neg h1]; exact ⟨rfl, by omega⟩
theorem count_small {st : St} (h : (uintS st).1 ≤ 1099511627776) : countS st = uintS st := by
  unfold countS; rw [if_neg (by omega)]
theorem count_ge (st : St) : 0 ≤ (countS st).1 ∧ (countS st).1 ≤ 1099511627776 := by
  unfold countS
  have := uint_ge st
  split
  · exact ⟨Int.le_refl 0, (by decide : (0 : Int) ≤ 1099511627776)⟩
  · exact ⟨this.1, by omega⟩
theorem runS_stick {k : Nat} {st : St} (h : (runS k st).2.e = 0) : st.e = 0 := by
  cases k with
  | zero => exact h
  | succ k =>
    by_cases h0 : st.e = 0
    · exact h0
    · unfold runS at h; rw [if_neg h0] at h; exact h
theorem seat_stick {st : St} (h : (seatS st).2.e = 0) : ¬ 1 < (byteS (uintS (uintS st).2).2).1 ∧ (seatS st).2 = (byteS (uintS (uintS st).2).2).2 ∧ (byteS (uintS (uintS st).2).2).2.e = 0 ∧ (uintS (uintS st).2).2.e = 0 ∧ (uintS st).2.e = 0 := by
  unfold seatS at h ⊢
  dsimp only at h ⊢
  by_cases h1 : 1 < (byteS (uintS (uintS st).2).2).1
  · rw [if_pos h1] at h
    exact absurd h (fail_ne _ (by decide))
  · rw [if_neg h1] at h ⊢
    have h2 := byte_stick h
    exact ⟨h1, rfl, h, h2, uint_stick h2⟩
theorem may_of {m : MbN} (h : mayN m = true) : 0 ≤ m.node ∧ m.node < 8 ∧ 1 ≤ m.life ∧ m.life ≤ 1099511627776 := by
  unfold mayN at h
  simp only [Bool.and_eq_true, decide_eq_true_eq] at h
  omega
theorem run_to {k : Nat} : ∀ {st : St} {l : List StN} {s : St}, runS k st = (l, s) → s.e = 0 → (∀ x ∈ l, mayN x.m = true) → runR k st = some (l, s) := by
  induction k with
  | zero => intro st l s h he _; exact congrArg some h
  | succ k ih =>
    intro st l s h he hm
    have h0 : st.e = 0 := runS_stick (k := k + 1) (by rw [h]; exact he)
    rw [show runS (k + 1) st = ((seatS st).1 :: (runS k (seatS st).2).1, (runS k (seatS st).2).2) from if_pos h0] at h
    injection h with hl hs
    have hr : (runS k (seatS st).2).2.e = 0 := by rw [hs]; exact he
    obtain ⟨n1, e1, b0, u1, u0⟩ := seat_stick (runS_stick hr)
    have hm0 := may_of (hm (seatS st).1 (by rw [← hl]; exact List.mem_cons_self))
    have g0 := uint_ge st
    have g1 := uint_ge (uintS st).2
    have a0 : w64 (uintS st).1 = (uintS st).1 := w64_of g0.1 g0.2 hm0.1
    have a1 : w64 (uintS (uintS st).2).1 = (uintS (uintS st).2).1 := w64_of g1.1 g1.2 (by have : 1 ≤ w64 (uintS (uintS st).2).1 := hm0.2.2.1; omega)
    have c0 : countS st = uintS st := count_small (by have : w64 (uintS st).1 < 8 := hm0.2.1; rw [a0] at this; omega)
    have c1 : countS (uintS st).2 = uintS (uintS st).2 := count_small (by have : w64 (uintS (uintS st).2).1 ≤ 1099511627776 := hm0.2.2.2; rw [a1] at this; omega)
    have hk := ih (st := (seatS st).2) (l := (runS k (seatS st).2).1) (s := (runS k (seatS st).2).2) rfl hr (fun x hx => hm x (by rw [← hl]; exact List.mem_cons_of_mem _ hx))
    unfold runR
    rw [c0, c1, if_neg n1, ← e1, hk]
    show some _ = _
    rw [hs, ← hl]
    show some (_ :: _, _) = some (_ :: _, _)
    have : (seatS st).1 = ⟨⟨(uintS st).1, (uintS (uintS st).2).1⟩, decide ((byteS (uintS (uintS st).2).2).1 = 1)⟩ := by
      unfold seatS
      dsimp only
      rw [a0, a1]
    rw [this]
theorem run_of {k : Nat} : ∀ {st : St} {l : List StN} {s : St}, runR k st = some (l, s) → s.e = 0 → runS k st = (l, s) := by
  induction k with
  | zero => intro st l s h he; exact Option.some.inj h
  | succ k ih =>
    intro st l s h he
    unfold runR at h
    by_cases n1 : 1 < (byteS (countS (countS st).2).2).1
    · rw [if_pos n1] at h; cases h
    · rw [if_neg n1] at h
      obtain ⟨⟨l', s'⟩, hk, hx⟩ := Option.map_eq_some_iff.1 h
      injection hx with hl hs
      dsimp only at hl hs
      subst hs
      have hr := ih hk he
      have b0 : (byteS (countS (countS st).2).2).2.e = 0 := runS_stick (k := k) (by rw [hr]; exact he)
      obtain ⟨c1, g1⟩ := count_of (byte_stick b0)
      have u1 : (uintS (countS st).2).2.e = 0 := by rw [← c1]; exact byte_stick b0
      obtain ⟨c0, g0⟩ := count_of (uint_stick u1)
      rw [c0] at c1 g1 u1
      have h0 : st.e = 0 := uint_stick (uint_stick u1)
      rw [c0, c1] at n1 hr hl b0
      have e1 : (seatS st).2 = (byteS (uintS (uintS st).2).2).2 := by unfold seatS; dsimp only; rw [if_neg n1]
      have g0' := (uint_ge st).1
      have g1' := (uint_ge (uintS st).2).1
      have e2 : (seatS st).1 = ⟨⟨(uintS st).1, (uintS (uintS st).2).1⟩, decide ((byteS (uintS (uintS st).2).2).1 = 1)⟩ := by
        unfold seatS
        dsimp only
        rw [w64_small g0' (by omega), w64_small g1' (by omega)]
      unfold runS
      rw [if_pos h0, e1, e2, hr]
      exact Prod.ext hl rfl
theorem take_rel (st : St) : (takeR st = none ∧ (takeP st).1 = zeroN ∧ (takeP st).2.e ≠ 0) ∨ (∃ c s, takeR st = some (c, s) ∧ takeP st = (c, s) ∧ s.e = 0 ∧ rightN c = true) := by
  rcases hR : takeR st with _ | ⟨c, s⟩
  · left
    refine ⟨rfl, ?_⟩
    unfold takeP
    by_cases h8 : 8 < (uintS (uintS st).2).1
    · rw [if_pos h8]; exact ⟨rfl, fail_ne _ (by decide)⟩
    rw [if_neg h8]
    generalize hr : runS (uintS (uintS st).2).1.toNat (uintS (uintS st).2).2 = r
    obtain ⟨l, s⟩ := r
    dsimp only
    unfold endS
    by_cases he : (endE ⟨w64 (uintS st).1, l⟩ s).e = 0
    · exfalso
      unfold endE at he
      by_cases hg : rightN ⟨w64 (uintS st).1, l⟩ = true
      · rw [if_pos hg] at he
        have hp := right_iff.1 hg
        have e1 : 1 ≤ w64 (uintS st).1 := hp.e1
        have e2 : w64 (uintS st).1 ≤ 1099511627776 := hp.e2
        have g0 := uint_ge st
        have a0 := w64_of g0.1 g0.2 (by omega)
        have c0 : countS st = uintS st := count_small (by omega)
        have c1 : countS (uintS st).2 = uintS (uintS st).2 := count_small (by omega)
        have := run_to hr he (fun x hx => hp.good.may x hx)
        unfold takeR at hR
        rw [c0, c1, if_neg h8, this] at hR
        simp only [Option.bind_some, goodR] at hR
        rw [if_pos ⟨he, by rw [← a0]; exact hg⟩] at hR
        cases hR
      · rw [if_neg hg] at he
        exact fail_ne _ (by decide) he
    · rw [if_neg he]
      exact ⟨rfl, he⟩
  · right
    refine ⟨c, s, rfl, ?_⟩
    unfold takeR at hR
    by_cases h8 : 8 < (countS (countS st).2).1
    · rw [if_pos h8] at hR; cases hR
    rw [if_neg h8] at hR
    obtain ⟨⟨l, s'⟩, hk, hx⟩ := Option.bind_eq_some_iff.1 hR
    unfold goodR at hx
    dsimp only at hx
    by_cases hg : s'.e = 0 ∧ rightN ⟨(countS st).1, l⟩ = true
    · rw [if_pos hg] at hx
      injection hx with hx
      injection hx with hc hs
      subst hc hs
      obtain ⟨he, hg⟩ := hg
      have hr := run_of hk he
      have b0 : (countS (countS st).2).2.e = 0 := runS_stick (by rw [hr]; exact he)
      obtain ⟨c1, g1⟩ := count_of b0
      have u1 : (uintS (countS st).2).2.e = 0 := by rw [← c1]; exact b0
      obtain ⟨c0, g0⟩ := count_of (uint_stick u1)
      rw [c0] at c1
      rw [c0, c1] at h8 hr
      rw [c0] at hg ⊢
      refine ⟨?_, he, hg⟩
      unfold takeP
      rw [if_neg h8, hr, w64_small (uint_ge st).1 (by omega)]
      unfold endS endE
      rw [if_pos hg, if_pos he]
    · rw [if_neg hg] at hx; cases hx
/-! What is printed is read as it was. -/
theorem byte_flag (f : Bool) (R : ByteArray) : byteS ⟨flagB f ++ R, 0⟩ = (flagI f, ⟨R, 0⟩) := by
  have hc : cutS (flagB f ++ R) 1 = R := cut_append _ _ _ (flagB_size f).symm
  unfold byteS
  rw [if_pos rfl, if_neg (by rw [size_append', flagB_size]; omega), hc, bytes_append]
  cases f <;> rfl
theorem seat_back {x : StN} (h : mayN x.m = true) (R : ByteArray) : seatS ⟨seatB x ++ R, 0⟩ = (x, ⟨R, 0⟩) := by
  obtain ⟨h0, h1, h2, h3⟩ := may_of h
  have e : seatB x ++ R = encB x.m.node.toNat ++ (encB x.m.life.toNat ++ (flagB x.syn ++ R)) := by
    unfold seatB
    rw [app_assoc, app_assoc]
  have u0 := uint_back x.m.node.toNat (encB x.m.life.toNat ++ (flagB x.syn ++ R)) (by omega)
  have u1 := uint_back x.m.life.toNat (flagB x.syn ++ R) (by omega)
  unfold seatS
  rw [e, u0]
  dsimp only
  rw [u1]
  dsimp only
  rw [byte_flag]
  dsimp only
  have n1 : ¬ 1 < flagI x.syn := by unfold flagI; split <;> omega
  have n2 : decide (flagI x.syn = 1) = x.syn := by unfold flagI; cases x.syn <;> rfl
  rw [if_neg n1, n2, w64_small (by omega) (by omega), w64_small (by omega) (by omega)]
  obtain ⟨⟨a, b⟩, c⟩ := x
  dsimp only at h0 h2 ⊢
  rw [Int.toNat_of_nonneg h0, Int.toNat_of_nonneg (by omega)]
theorem run_back (l : List StN) (h : ∀ x ∈ l, mayN x.m = true) (R : ByteArray) : runS l.length ⟨seatsB l ++ R, 0⟩ = (l, ⟨R, 0⟩) := by
  induction l with
  | nil => show ([], (⟨(⟨#[]⟩ : ByteArray) ++ R, 0⟩ : St)) = _; rw [app_none]
  | cons x l ih =>
    have e : seatsB (x :: l) ++ R = seatB x ++ (seatsB l ++ R) := by
      show seatB x ++ seatsB l ++ R = _
      rw [app_assoc]
    have hs := seat_back (h x List.mem_cons_self) (seatsB l ++ R)
    show runS (l.length + 1) _ = _
    unfold runS
    rw [if_pos rfl, e, hs]
    dsimp only
    rw [ih fun y hy => h y (List.mem_cons_of_mem _ hy)]
theorem take_back {c : CfN} (h : RightP c) (R : ByteArray) : takeP ⟨chainB c ++ R, 0⟩ = (c, ⟨R, 0⟩) := by
  have e1 := h.e1
  have e2 := h.e2
  have n2 := h.n2
  have e : chainB c ++ R = encB c.epoch.toNat ++ (encB c.l.length ++ (seatsB c.l ++ R)) := by
    unfold chainB
    rw [app_assoc, app_assoc]
  have u0 := uint_back c.epoch.toNat (encB c.l.length ++ (seatsB c.l ++ R)) (by omega)
  have u1 := uint_back c.l.length (seatsB c.l ++ R) (by omega)
  unfold takeP
  rw [e, u0]
  dsimp only
  rw [u1]
  dsimp only
  rw [if_neg (by omega), Int.toNat_natCast, run_back c.l (fun x hx => h.good.may x hx), w64_small (by omega) (by omega)]
  obtain ⟨ep, l⟩ := c
  dsimp only at e1 ⊢
  rw [Int.toNat_of_nonneg (by omega)]
  unfold endS endE
  rw [if_pos (right_iff.2 h)]
  rfl
/-! Read. -/
def readP (s : ByteArray) : CfN × Int := if (takeP ⟨s, 0⟩).2.e = 0 ∧ (takeP ⟨s, 0⟩).2.rest.size = 0 then ((takeP ⟨s, 0⟩).1, 0) else (zeroN, 3)
def readR (s : ByteArray) : CfN × Bool := match takeR ⟨s, 0⟩ with | none => (zeroN, false) | some (c, st) => if st.rest.size = 0 then (c, true) else (zeroN, false)
theorem read_rel (s : ByteArray) : readP s = ((readR s).1, if (readR s).2 = true then 0 else 3) := by
  unfold readP readR
  rcases take_rel ⟨s, 0⟩ with ⟨h1, h2, h3⟩ | ⟨c, st, h1, h2, h3, h4⟩
  · rw [h1, if_neg (fun e => h3 e.1)]; rfl
  · rw [h1, h2]
    dsimp only
    by_cases h : st.rest.size = 0
    · simp only [h, h3, and_self, if_true]
    · simp only [h, and_false, if_false]
      rfl
theorem readR_right {s : ByteArray} (h : (readR s).2 = true) : rightN (readR s).1 = true := by
  unfold readR at h ⊢
  rcases take_rel ⟨s, 0⟩ with ⟨h1, h2, h3⟩ | ⟨c, st, h1, h2, h3, h4⟩
  · rw [h1] at h; cases h
  · rw [h1] at h ⊢
    dsimp only at h ⊢
    split at h
    · next h5 => rw [if_pos h5]; exact h4
    · cases h
theorem read_back {c : CfN} (h : RightP c) : readP (chainB c) = (c, 0) := by
  have hb := take_back h ⟨#[]⟩
  rw [app_none'] at hb
  unfold readP
  rw [hb]
  rfl
theorem readP_len (s : ByteArray) : (readP s).1.l.length ≤ 8 := by
  rw [read_rel]
  dsimp only
  cases h : (readR s).2 with
  | true => exact (right_iff.1 (readR_right h)).n2
  | false =>
    unfold readR at h ⊢
    rcases take_rel ⟨s, 0⟩ with ⟨h1, h2, h3⟩ | ⟨c, st, h1, h2, h3, h4⟩
    · rw [h1]; decide
    · rw [h1] at h ⊢
      dsimp only at h ⊢
      split at h
      · cases h
      · next h5 => rw [if_neg h5]; decide
theorem takeP_len (st : St) : (takeP st).1.l.length ≤ 8 := by
  rcases take_rel st with ⟨h1, h2, h3⟩ | ⟨c, s, h1, h2, h3, h4⟩
  · rw [h2]; decide
  · rw [h2]; exact (right_iff.1 h4).n2
end Go.Proofs.Ytnagidgffkffhaa.G
