/-
  The document's Right (layer 4).
-/
import Derived.Test.YtiidhcpflplpiaaGreatDoorAny
import Derived.Deep.RegionHeld3
import Derived.BigQuiet
namespace Go.Proofs.YtiidhcpflplpiaaGreatDoor
open Go.RowKit Crn

def setAt (x : SpecN) : Nat → Nat
  | 0 => x.min
  | 1 => x.hour
  | 2 => x.dom
  | 3 => x.mon
  | _ => x.dow
/-- The sets from the field k on are right. -/
def okFrom (x : SpecN) : Nat → Nat → Bool
  | 0, _ => true
  | n + 1, k => okSet k (setAt x k) && okFrom x n (k + 1)
/-- The sets from the field k on, by a function. -/
def okBy (g : Nat → Nat) : Nat → Nat → Bool
  | 0, _ => true
  | n + 1, k => okSet k (g k) && okBy g n (k + 1)
theorem okFrom_by (x : SpecN) (n k : Nat) : okFrom x n k = okBy (setAt x) n k := by
  induction n generalizing k with
  | zero => rfl
  | succ n ih => simp only [okFrom, okBy, ih]
theorem right_from (x : SpecN) : right x = (okFrom x 5 0 && decide (-899 ≤ x.ahead ∧ x.ahead ≤ 899)) := by
  simp only [right, okFrom, setAt, Bool.and_assoc, Bool.and_true]

theorem andNot_okSet (f set : Nat) (hf : f < 5) (hs : set < 18446744073709551616) (h0 : set ≠ 0) :
    (bits .andNot .u64 (set : Int) ((every f 1 : Nat) : Int) != 0) = !okSet f set := by
  have he := every_lt' f 1 hf (by omega)
  rw [u64_andNot_nat set (every f 1) hs he]
  have key : set &&& (18446744073709551615 - every f 1) = 0 ↔ set &&& every f 1 = set := by
    have hb : ∀ i, (18446744073709551615 - every f 1).testBit i = (decide (i < 64) && !(every f 1).testBit i) := fun i => by
      have e : 18446744073709551615 - every f 1 = 2 ^ 64 - (every f 1 + 1) := by omega
      rw [e, Nat.testBit_two_pow_sub_succ (by omega)]
    constructor
    · intro h
      apply Nat.eq_of_testBit_eq
      intro i
      have := congrArg (fun x => x.testBit i) h
      simp only [Nat.testBit_and, hb, Nat.zero_testBit] at this
      rw [Nat.testBit_and]
      cases h1 : set.testBit i
      · rfl
      · have hi : i < 64 := by
          rcases Nat.lt_or_ge i 64 with h | h
          · exact h
          · rw [Nat.testBit_lt_two_pow (Nat.lt_of_lt_of_le hs (Nat.pow_le_pow_right (n := 2) (by omega) h))] at h1
            cases h1
        rw [h1] at this
        simpa [hi] using this
    · intro h
      apply Nat.eq_of_testBit_eq
      intro i
      rw [Nat.testBit_and, hb, Nat.zero_testBit]
      have := congrArg (fun x => x.testBit i) h
      simp only [Nat.testBit_and] at this
      cases h1 : set.testBit i
      · rfl
      · rw [h1] at this
        simp only [Bool.true_and] at this
        rw [this]
        simp
  unfold okSet
  rw [Bool.eq_iff_iff]
  simp only [bne_iff_ne, ne_eq, Bool.not_eq_true', Bool.and_eq_false_iff, bne_eq_false_iff_eq, beq_eq_false_iff_ne, h0, false_or]
  rw [← key]
  omega

set_option maxRecDepth 100000 in
set_option maxHeartbeats 400000 in
theorem right_any (x : SpecN) (hx : Fits x) (w : World) :
    Calls Tryz.prog 48 #[specV x] w fun e w' => e = .returned (.bool (right x)) ∧ Below w.heap.size w w' := by
  have Cs := Lib.hid (fun W => sets_any x W)
  have hr := Lib.hid (right_from x)
  have hso := Lib.hid (fun f hf hs h0 => andNot_okSet f (setAt x f) hf hs h0)
  have Ca : Hid (∀ (f : Nat) (W : World), f < 5 → Calls Tryz.prog 66 #[.int .i64 f, .int .i64 1] W fun e w' => e = .returned (.int .u64 (every f 1 : Nat)) ∧ Below W.heap.size W w') := fun f W hf => all_any f 1 W hf (by omega) (by omega)
  have hlt : Hid (∀ j, setAt x j < 18446744073709551616) := fun j => by
    match j with
    | 0 => exact hx.min
    | 1 => exact hx.hour
    | 2 => exact hx.dom
    | 3 => exact hx.mon
    | _ + 4 => exact hx.dow
  have ha := hx.a1
  have hb := hx.a2
  have hst : Hid (∃ g : Nat → Nat, setAt x = g) := ⟨_, rfl⟩
  generalize right x = res at *
  rw [okFrom_by] at hr
  have hsv : Hid (∀ j, j < 5 → (setsV x)[j]? = some (.int .u64 (setAt x j : Nat))) := fun j hj => by
    match j, hj with
    | 0, _ => rfl
    | 1, _ => rfl
    | 2, _ => rfl
    | 3, _ => rfl
    | 4, _ => rfl
  clear hst
  generalize setAt x = g at *
  obtain ⟨x0, x1, x2, x3, x4, x5, x6, x7⟩ := x
  simp only [specV, cellsN] at *
  simp only [setsV] at Cs hsv
  go_enter Tryz.func48, Tryz.ntmps48
  go_wp2_with fail
  refine (Cs.out _).mono ?_
  rintro e w1 ⟨rfl, k1⟩
  have hbx : w1.cell? ⟨w.heap.size, 7, none⟩ = some (.int .i64 x7) := (k1.cell (p := ⟨w.heap.size, 7, none⟩) (by simp)).trans (by rw [World.cell?_alloc_new]; rfl)
  have hsz1 : w.heap.size + 1 ≤ w1.heap.size := by have := k1.size; simpa using this
  have b1 := Lib.hid (((Below.refl w.heap.size w).alloc (Nat.le_refl _) (.cells #[.int .u64 x0, .int .u64 x1, .int .u64 x2, .int .u64 x3, .int .u64 x4, .bool x5, .bool x6, .int .i64 x7] 64)).trans (k1.mono (by simp)))
  clear k1 Cs
  have hbx2 : Hid ((w1.alloc (.cells #[.int .u64 x0, .int .u64 x1, .int .u64 x2, .int .u64 x3, .int .u64 x4] 98)).cell? ⟨w.heap.size, 7, none⟩ = some (.int .i64 x7)) := by
    rw [World.cell?_alloc_lt w1 _ ⟨w.heap.size, 7, none⟩ (by show w.heap.size < _; omega)]
    exact hbx
  have hcs : Hid (∀ j, j < 5 → (w1.alloc (.cells #[.int .u64 x0, .int .u64 x1, .int .u64 x2, .int .u64 x3, .int .u64 x4] 98)).cell? ⟨w1.heap.size, j, none⟩ = some (.int .u64 (g j : Nat))) := fun j hj => by
    rw [World.cell?_alloc_new]
    exact hsv.out j hj
  have b2 := Lib.hid (b1.out.alloc b1.out.size (.cells #[.int .u64 x0, .int .u64 x1, .int .u64 x2, .int .u64 x3, .int .u64 x4] 98))
  clear hsv hbx b1
  go_wp2_with fail
  generalize w1.alloc (.cells #[.int .u64 x0, .int .u64 x1, .int .u64 x2, .int .u64 x3, .int .u64 x4] 98) = w2 at *
  generalize w1.heap.size = gs at *
  go_loopw [4] (fun i wr => ∃ k : Nat, k ≤ 5 ∧ i = .int .i64 k ∧ Hid (okBy g (5 - k) k = okBy g 5 0) ∧ Hid (∀ j, j < 5 → wr.cell? ⟨gs, j, none⟩ = some (.int .u64 (g j : Nat))) ∧ Hid (wr.cell? ⟨w.heap.size, 7, none⟩ = some (.int .i64 x7)) ∧ Hid (Below w.heap.size w wr)) (fun i _ => 5 - (intOf i).toNat)
  case atStart => exact ⟨0, by omega, rfl, rfl, hcs, hbx2, b2⟩
  case round =>
    obtain ⟨k, hk, rfl, hok, hc, hx7, hbw⟩ := hrel
    clear hcs hbx2 b2
    by_cases hk5 : k < 5
    · have hck := hc.out k hk5
      have hgl := World.block_lt_of_cell? wr _ hck
      have hstep : Hid (okBy g 5 0 = (okSet k (g k) && okBy g (5 - (k + 1)) (k + 1))) := by
        rw [← hok.out, show 5 - k = (5 - (k + 1)) + 1 by omega]
        exact rfl
      have hn := hlt.out k
      have hao := Lib.hid (hso.out k hk5 hn)
      have ca := Lib.hid (fun W => Ca.out k W hk5)
      have hzero : Hid (g k = 0 → okSet k (g k) = false) := fun h => by
        unfold okSet
        rw [h]
        exact rfl
      have hxl := World.block_lt_of_cell? wr _ hx7.out
      generalize g k = v at *
      generalize okSet k v = ok at *
      by_cases hv0 : v = 0
      · have e0 : ((v : Int) == 0) = true := by simp; omega
        have hko := hzero.out hv0
        have hres : Hid (res = false) := by
          rw [hr.out, hstep.out, hko]
          exact rfl
        clear hv0 hao
        go_wp2_with fail
        go_quiet (fail)
        have b3 := Lib.hid (below_drewN hbw.out nq)
        generalize wr.drewN nq = w3 at *
        go_wp2_with fail
        go_ret
        exact ⟨by rw [hres.out]; rfl, b3.out⟩
      · have e0 : ((v : Int) == 0) = false := by simp; omega
        have ea := hao.out hv0
        clear hv0 hao
        generalize every k 1 = E at *
        go_wp2_with fail
        go_region_held3 (fun w' => w'.cell? ⟨gs, k, none⟩ = some (.int .u64 v)) (first | exact hc6 | go_keep)
          (first
            | (go_at_call 66; refine (ca.out _).mono ?_; rintro e w6 ⟨rfl, k6⟩; have hc6 := (k6.cell (p := ⟨gs, k, none⟩) hgl).trans hck; replace k6 := Lib.hid k6))
        have b6 := Lib.hid (hbw.out.drew.trans (k6.out.mono hbw.out.drew.size))
        have hc7 : Hid (∀ j, j < 5 → w6.cell? ⟨gs, j, none⟩ = some (.int .u64 (g j : Nat))) := fun j hj => (k6.out.cell (p := ⟨gs, j, none⟩) hgl).trans (hc.out j hj)
        have hx8 : Hid (w6.cell? ⟨w.heap.size, 7, none⟩ = some (.int .i64 x7)) := (k6.out.cell (p := ⟨w.heap.size, 7, none⟩) hxl).trans hx7.out
        clear k6 hc6 hck
        cases ok
        · have hres : Hid (res = false) := by
            rw [hr.out, hstep.out]
            exact rfl
          simp only [Bool.not_false]
          go_wp2_with fail
          go_ret
          exact ⟨by rw [hres.out]; rfl, b6.out⟩
        · have hnext : Hid (okBy g (5 - (k + 1)) (k + 1) = okBy g 5 0) := by
            rw [hstep.out]
            exact rfl
          simp only [Bool.not_true]
          go_wp2_with fail
          exact ⟨⟨k + 1, by omega, by go_num, hnext, hc7, hx8, b6⟩, by simp [intOf]; omega⟩
    · obtain rfl : k = 5 := by omega
      have hx7' := hx7.out
      have hres : Hid (res = decide (-899 ≤ x7 ∧ x7 ≤ 899)) := by
        rw [hr.out, ← hok.out]
        exact rfl
      clear hx7
      go_wp2_with fail
      all_goals go_ret
      all_goals exact ⟨ret_bool (by rw [hres.out, Bool.eq_iff_iff]; simp; omega), hbw.out⟩
end Go.Proofs.YtiidhcpflplpiaaGreatDoor
