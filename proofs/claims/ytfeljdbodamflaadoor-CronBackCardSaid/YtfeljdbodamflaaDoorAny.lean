/-
  The document's any and sets (layer 4).
-/
import Derived.Test.YtfeljdbodamflaaDoorList
namespace Go.Proofs.YtfeljdbodamflaaDoor
open Go.RowKit Crn

theorem every_lt' (f st : Nat) (hf : f < 5) (h1 : 1 ≤ st) : every f st < 18446744073709551616 := by
  have hs := (okSet_iff.1 (bits_ok (f := f) (a := low f) (b := top f) (step := st) hf (Nat.le_refl _) (top_le f hf).2 (top_le f hf).1)).2
  have e1 : every f st ≤ every f 1 := by
    have h := hs
    unfold Crn.Sub at h
    unfold every at *
    rw [← h]
    exact Nat.and_le_right
  have h2 := every_lt f hf
  have h3 : (2 : Nat) ^ 64 = 18446744073709551616 := by decide
  have := h1
  omega
theorem wrap_pow {m : Nat} (h : m < 64) : IntKind.u64.wrap ((2 : Int) ^ m) = ((2 ^ m : Nat) : Int) := by
  have h2 : 2 ^ m < 18446744073709551616 := Nat.pow_lt_pow_right (a := 2) (by omega) h
  have e0 : (2 : Int) ^ m = ((2 ^ m : Nat) : Int) := by simp
  have key : ∀ q : Nat, q < 18446744073709551616 → IntKind.u64.wrap (q : Int) = (q : Int) := fun q hq => IntWalk.u64_in _ (by omega)
  rw [e0]
  exact key _ h2
theorem stepOf_step {f set k n : Nat} : stepOf f set (k + 1) n = if set = every f n then some n else stepOf f set k (n + 1) := rfl
theorem list_len (set : Nat) : (list set).length ≤ 192 := listTo_len set 64

set_option maxRecDepth 100000 in
set_option maxHeartbeats 400000 in
theorem any_any (f set : Nat) (w : World) (hf : f < 5) (_hs : set < 18446744073709551616) :
    Calls Tryd.prog 36 #[.int .i64 f, .int .u64 set] w fun e w' => e = .returned (.string (bs (anyText f set))) ∧ Below w.heap.size w w' := by
  have Ca := Lib.hid (fun st W h1 h2 => all_any f st W hf h1 h2)
  have ht : Hid (anyText f set = if set = every f 1 then star else match stepOf f set 99 1 with
    | some n => [42, 47] ++ list (2 ^ (n % 64))
    | none => []) := rfl
  have c1 := Lib.hid (all_any f 1 w hf (by omega) (by omega))
  have hev := every_lt' f 1 hf (by omega)
  generalize anyText f set = res at *
  by_cases h1 : set = every f 1
  · have e1 : ((set : Int) == (every f 1 : Nat)) = true := by rw [← h1]; simp
    have hr : Hid (res = star) := ht.out.trans (if_pos h1)
    clear h1
    generalize every f 1 = E at *
    go_enter Tryd.func36, Tryd.ntmps36
    go_wp2_with fail
    refine c1.out.mono ?_
    rintro e w1 ⟨rfl, k1⟩
    replace k1 := Lib.hid k1
    go_wp2_with fail
    go_ret
    exact ⟨by rw [hr.out]; rfl, k1.out⟩
  · have e1 : ((set : Int) == (every f 1 : Nat)) = false := by simp; omega
    have hr : Hid (res = match stepOf f set 99 1 with
      | some n => [42, 47] ++ list (2 ^ (n % 64))
      | none => []) := ht.out.trans (if_neg h1)
    clear h1 ht
    generalize every f 1 = E at *
    go_enter Tryd.func36, Tryd.ntmps36
    go_wp2_with fail
    refine c1.out.mono ?_
    rintro e w1 ⟨rfl, k1⟩
    replace k1 := Lib.hid k1
    go_wp2_with fail
    clear e1 c1
    go_loopw [5] (fun i wr => ∃ k : Nat, 1 ≤ k ∧ k ≤ 100 ∧ i = .int .i64 k ∧ Hid (stepOf f set (100 - k) k = stepOf f set 99 1) ∧ Hid (Below w.heap.size w wr)) (fun i _ => 100 - (intOf i).toNat)
    case atStart => exact ⟨1, by omega, by omega, rfl, rfl, k1⟩
    case round =>
      obtain ⟨k, hk1, hk, rfl, hst, hb⟩ := hrel
      clear k1
      by_cases hlt : k < 100
      · have ca := Lib.hid (Ca.out k wr hk1 (by omega))
        have hev2 := every_lt' f k hf hk1
        have hss : Hid (stepOf f set (100 - k) k = if set = every f k then some k else stepOf f set (100 - (k + 1)) (k + 1)) := by
          rw [show 100 - k = (100 - (k + 1)) + 1 by omega]
          exact stepOf_step
        by_cases he : set = every f k
        · have e2 : ((set : Int) == (every f k : Nat)) = true := by rw [← he]; simp
          have hr2 : Hid (res = [42, 47] ++ list (2 ^ (k % 64))) := by
            rw [hr.out, ← hst.out, hss.out, if_pos he]
            exact rfl
          have hpow : 2 ^ (k % 64) < 18446744073709551616 := Nat.pow_lt_pow_right (a := 2) (by omega) (Nat.mod_lt k (by omega : 64 > 0))
          have cl : ∀ W : World, Calls Tryd.prog 35 #[.int .u64 (IntKind.u64.wrap (2 ^ (k % 64)))] W fun e w' => e = .returned (.string (bs (list (2 ^ (k % 64))))) ∧ Below W.heap.size W w' := fun W => by
            rw [wrap_pow (Nat.mod_lt k (by omega : 64 > 0))]
            exact list_any (2 ^ (k % 64)) W hpow
          have Cl := Lib.hid cl
          clear cl
          have hll : (bs (list (2 ^ (k % 64)))).size ≤ 192 := by rw [bs_size]; exact list_len _
          have hfin : Hid (bs [42, 47] ++ bs (list (2 ^ (k % 64))) = bs res) := by rw [bs_append, hr2.out]; exact rfl
          generalize bs (list (2 ^ (k % 64))) = T at *
          clear hr2 hpow
          clear he
          generalize every f k = E2 at *
          go_wp2_with fail
          refine ca.out.mono ?_
          rintro e w2 ⟨rfl, k2⟩
          have b2 := Lib.hid (hb.out.trans (k2.mono hb.out.size))
          clear k2
          go_wp2_with fail
          refine (Cl.out _).mono ?_
          rintro e w3 ⟨rfl, k3⟩
          have b3 := Lib.hid (b2.out.trans (k3.mono b2.out.size))
          clear k3
          have hz : ¬ 9223372036854775807 < (bs [42, 47]).size + T.size := by rw [bs_size]; simp; omega
          go_wp2_with fail
          go_ret
          exact ⟨by rw [← hfin.out]; rfl, b3.out⟩
        · have e2 : ((set : Int) == (every f k : Nat)) = false := by simp; omega
          have hn : Hid (stepOf f set (100 - (k + 1)) (k + 1) = stepOf f set 99 1) := by
            rw [← hst.out, hss.out, if_neg he]
            exact rfl
          clear he
          generalize every f k = E2 at *
          go_wp2_with fail
          refine ca.out.mono ?_
          rintro e w2 ⟨rfl, k2⟩
          have b2 := Lib.hid (hb.out.trans (k2.mono hb.out.size))
          clear k2
          go_wp2_with fail
          exact ⟨⟨k + 1, by omega, by omega, by go_num, hn, b2⟩, by simp [intOf]; omega⟩
      · have hr2 : Hid (res = []) := by
          rw [hr.out, ← hst.out, show 100 - k = 0 by omega]
          exact rfl
        go_wp2_with fail
        go_ret
        exact ⟨by rw [hr2.out]; rfl, hb.out⟩

def setsV (x : SpecN) : Array Value := #[.int .u64 x.min, .int .u64 x.hour, .int .u64 x.dom, .int .u64 x.mon, .int .u64 x.dow]

set_option maxRecDepth 100000 in
theorem sets_any (x : SpecN) (w : World) :
    Calls Tryd.prog 29 #[specV x] w fun e w' => e = .returned (.agg (setsV x)) ∧ Below w.heap.size w w' := by
  obtain ⟨x0, x1, x2, x3, x4, x5, x6, x7⟩ := x
  simp only [specV, cellsN, setsV]
  go_enter Tryd.func29, Tryd.ntmps29
  go_wp2_with fail
  refine bodyPost_ret (v := .agg #[.int .u64 x0, .int .u64 x1, .int .u64 x2, .int .u64 x3, .int .u64 x4]) ?_ rfl ?_
  · exact results_cell_row rfl _ _ (w.heap.size + 1) 48 #[.int .u64 x0, .int .u64 x1, .int .u64 x2, .int .u64 x3, .int .u64 x4] (0, 0) _ rfl (Go.heap_alloc2_new w _ _) Tryd.underlying48 rfl (by kernel_rfl)
  · exact ⟨rfl, ((Below.refl _ _).alloc (Nat.le_refl _) _).alloc (by simp) _⟩
end Go.Proofs.YtfeljdbodamflaaDoor
