/-
  Layer 6: cmp.Compare, cmp.Or and the program's compare; math/bits.Len64 and TrailingZeros64; place, beginning.
-/
import Derived.Test.YthobffeafddonaaDoorProg
import Derived.Test.YthobffeafddonaaDoorWMath
import Derived.Test.YthobffeafddonaaDoorShelf
import Derived.RowKit
import Derived.BigQuiet
import Derived.Lib.Hide
import Derived.ProofKit
import Derived.WalkKit
import Derived.Deep.RegionHeld3
import Derived.Deep.DeepCutAuto
import Derived.Lib.BitFns
import Derived.Lib.ItoaNum
import Derived.Lib.TrailingZeros
import Derived.Laws.Bits64b
set_option linter.unusedVariables false
namespace Go.Proofs.YthobffeafddonaaDoor
open Go.RowKit Whl

/-- A pair as a value. -/
def pairV (p : ItemN) : Value := .agg #[.int .i64 p.1, .int .i64 p.2]
def cmpI (a b : Int) : Int := if a < b then -1 else if b < a then 1 else 0
def orI (x y : Int) : Int := if x = 0 then y else x
theorem orI_yes {x y : Int} (h : x = 0) : orI x y = y := if_pos h
theorem orI_no {x y : Int} (h : x ≠ 0) : orI x y = x := if_neg h
def cmpP (p q : ItemN) : Int := orI (cmpI p.1 q.1) (cmpI p.2 q.2)

theorem isNaN_any (x : Int) (w : World) : Calls Tryd.prog 51 #[.int .i64 x] w fun e w' => e = .returned (.bool false) ∧ w = w' := by
  go_enter Tryd.func51, Tryd.ntmps51
  go_wp2_with fail
  go_ret
  exact ⟨by simp, rfl⟩
theorem compareI_any (x y : Int) (w : World) : Calls Tryd.prog 48 #[.int .i64 x, .int .i64 y] w fun e w' => e = .returned (.int .i64 (cmpI x y)) ∧ w = w' := by
  have c1 := fun W => isNaN_any x W
  have c2 := fun W => isNaN_any y W
  go_enter Tryd.func48, Tryd.ntmps48
  go_wp2_with fail
  refine (c1 _).mono ?_
  rintro e w1 ⟨rfl, rfl⟩
  go_wp2_with fail
  refine (c2 _).mono ?_
  rintro e w1 ⟨rfl, rfl⟩
  go_wp2_with fail
  all_goals go_ret
  all_goals refine ⟨?_, rfl⟩
  all_goals unfold cmpI
  all_goals first | (rw [if_pos (by omega)]; rfl) | (rw [if_neg (by omega), if_pos (by omega)]; rfl) | (rw [if_neg (by omega), if_neg (by omega)]; rfl)

def OrAt (x y : Int) (k : Nat) : Prop := (1 ≤ k → x = 0) ∧ (2 ≤ k → y = 0)
theorem or_any (g : Nat) (x y : Int) (w : World) (h0 : w.cell? ⟨g, 0, none⟩ = some (.int .i64 x)) (h1 : w.cell? ⟨g, 1, none⟩ = some (.int .i64 y)) :
    Calls Tryd.prog 47 #[.slice (some ⟨g, 0, none⟩) 2 2] w fun e w' => e = .returned (.int .i64 (orI x y)) ∧ w = w' := by
  go_enter Tryd.func47, Tryd.ntmps47
  go_wp2_with fail
  go_loopw [8] (fun v wr => ∃ k : Nat, v = .int .i64 k ∧ (k : Int) ≤ 2 ∧ Hid (OrAt x y k) ∧ w = wr) (fun v _ => (2 - intOf v).toNat)
  case atStart => exact ⟨0, rfl, by omega, ⟨fun h => by omega, fun h => by omega⟩, rfl⟩
  case round =>
    obtain ⟨k, rfl, hk, q, rfl⟩ := hrel
    by_cases h2 : (k : Int) < 2
    · rcases (show k = 0 ∨ k = 1 by omega) with rfl | rfl
      · go_wp2_with fail
        · go_ret
          next hh =>
          have hh2 : x ≠ 0 := by simpa using hh
          refine ⟨?_, rfl⟩
          rw [orI_no hh2]
          rfl
        · next hh =>
          have hh2 : x = 0 := by simpa using hh
          exact ⟨⟨1, rfl, by omega, ⟨fun _ => hh2, fun h => by omega⟩, by first | rfl | trivial⟩, by simp [intOf]⟩
      · go_wp2_with fail
        · go_ret
          refine ⟨?_, rfl⟩
          rw [orI_yes (q.out.1 (by omega))]
          rfl
        · next hh =>
          have hh2 : y = 0 := by simpa using hh
          exact ⟨⟨2, rfl, by omega, ⟨fun _ => q.out.1 (by omega), fun _ => hh2⟩, by first | rfl | trivial⟩, by simp [intOf]⟩
    · go_wp2_with fail
      go_ret
      refine ⟨?_, rfl⟩
      rw [orI_yes (q.out.1 (by omega)), q.out.2 (by omega)]
      rfl
theorem or_new (x y : Int) (w : World) : Calls Tryd.prog 47 #[.slice (some ⟨w.heap.size, 0, none⟩) 2 2] (w.alloc (.cells #[.int .i64 x, .int .i64 y] 3)).drew fun e w' => e = .returned (.int .i64 (orI x y)) ∧ (w.alloc (.cells #[.int .i64 x, .int .i64 y] 3)).drew = w' :=
  or_any _ x y _ (by go_simp) (by go_simp)

set_option maxHeartbeats 1000000 in
theorem compare_any (p q : ItemN) (w : World) : Calls Tryd.prog 35 #[pairV p, pairV q] w fun e w' => e = .returned (.int .i64 (cmpP p q)) ∧ Below w.heap.size w w' := by
  obtain ⟨a0, a1⟩ := p
  obtain ⟨b0, b1⟩ := q
  unfold pairV
  have c1 := Lib.hid (fun W => compareI_any (a0 : Int) (b0 : Int) W)
  have c2 := Lib.hid (fun W => compareI_any (a1 : Int) (b1 : Int) W)
  have c3 := Lib.hid (fun W => or_new (cmpI (a0 : Int) (b0 : Int)) (cmpI (a1 : Int) (b1 : Int)) W)
  go_enter Tryd.func35, Tryd.ntmps35
  go_upto_region 1 with fail
  have hb0 : Hid (Below w.heap.size w ((w.alloc (.cells #[.int .i64 (a0 : Int), .int .i64 (a1 : Int)] 52)).alloc (.cells #[.int .i64 (b0 : Int), .int .i64 (b1 : Int)] 52))) := ((Below.refl _ _).alloc (Nat.le_refl _) _).alloc (by simp) _
  have k0 : Hid (∀ W, Below ((w.alloc (.cells #[.int .i64 (a0 : Int), .int .i64 (a1 : Int)] 52)).alloc (.cells #[.int .i64 (b0 : Int), .int .i64 (b1 : Int)] 52)).heap.size ((w.alloc (.cells #[.int .i64 (a0 : Int), .int .i64 (a1 : Int)] 52)).alloc (.cells #[.int .i64 (b0 : Int), .int .i64 (b1 : Int)] 52)) W → W.cell? ⟨w.heap.size, 0, none⟩ = some (.int .i64 (a0 : Int)) ∧ W.cell? ⟨w.heap.size, 1, none⟩ = some (.int .i64 (a1 : Int)) ∧ W.cell? ⟨w.heap.size + 1, 0, none⟩ = some (.int .i64 (b0 : Int)) ∧ W.cell? ⟨w.heap.size + 1, 1, none⟩ = some (.int .i64 (b1 : Int))) := fun W hW => by
    refine ⟨(hW.cell (p := ⟨w.heap.size, 0, none⟩) (by simp; omega)).trans ?_, (hW.cell (p := ⟨w.heap.size, 1, none⟩) (by simp; omega)).trans ?_, (hW.cell (p := ⟨w.heap.size + 1, 0, none⟩) (by simp)).trans ?_, (hW.cell (p := ⟨w.heap.size + 1, 1, none⟩) (by simp)).trans ?_⟩
    all_goals go_simp
  generalize ((w.alloc (.cells #[.int .i64 (a0 : Int), .int .i64 (a1 : Int)] 52)).alloc (.cells #[.int .i64 (b0 : Int), .int .i64 (b1 : Int)] 52)) = w2 at *
  have hb : Hid (Below w2.heap.size w2 w2.drew) := (Below.refl _ _).drew
  have hcA := k0.out _ hb.out
  go_region_held3 (fun w' => w'.cell? ⟨w.heap.size, 0, none⟩ = some (.int .i64 (a0 : Int)) ∧ w'.cell? ⟨w.heap.size, 1, none⟩ = some (.int .i64 (a1 : Int)) ∧ w'.cell? ⟨w.heap.size + 1, 0, none⟩ = some (.int .i64 (b0 : Int)) ∧ w'.cell? ⟨w.heap.size + 1, 1, none⟩ = some (.int .i64 (b1 : Int))) (first | (with_reducible exact hcA) | (with_reducible exact k0.out _ (((Below.refl _ _).alloc (Nat.le_refl _) _).drew)) | go_keep)
    (first
      | (go_at_call 48; (with_reducible refine (c1.out _).mono ?_); rintro e w6 ⟨rfl, rfl⟩)
      | (go_at_call 48; (with_reducible refine (c2.out _).mono ?_); rintro e w6 ⟨rfl, rfl⟩)
      | (go_at_call 47; (with_reducible refine (c3.out _).mono ?_); rintro e w6 ⟨rfl, rfl⟩))
  go_wp2_with fail
  go_ret
  exact ⟨rfl, hb0.out.trans ((((Below.refl _ _).alloc (Nat.le_refl _) _).drew).mono hb0.out.size)⟩

/-! ### bits -/
theorem bits_xor_i64_nat (a b : Nat) (ha : a < 9223372036854775808) (hb : b < 9223372036854775808) : bits .xor .i64 (a : Int) (b : Int) = ((a ^^^ b : Nat) : Int) := by
  have hx : a ^^^ b < 2 ^ 63 := Nat.xor_lt_two_pow (by omega) (by omega)
  have h1 : (BitVec.ofInt 64 (a : Int)).toNat = a := by
    rw [BitVec.ofInt_natCast, BitVec.toNat_ofNat]; exact Nat.mod_eq_of_lt (by omega)
  have h2 : (BitVec.ofInt 64 (b : Int)).toNat = b := by
    rw [BitVec.ofInt_natCast, BitVec.toNat_ofNat]; exact Nat.mod_eq_of_lt (by omega)
  show IntKind.i64.wrap ((BitVec.ofInt 64 (a : Int) ^^^ BitVec.ofInt 64 (b : Int)).toNat : Int) = _
  rw [BitVec.toNat_xor, h1, h2, IntKind.wrap_i64]
  omega
theorem bits_or_i64_nat (a b : Nat) (ha : a < 9223372036854775808) (hb : b < 9223372036854775808) : bits .or .i64 (a : Int) (b : Int) = ((a ||| b : Nat) : Int) := by
  have hx : a ||| b < 2 ^ 63 := Nat.or_lt_two_pow (by omega) (by omega)
  have h1 : (BitVec.ofInt 64 (a : Int)).toNat = a := by
    rw [BitVec.ofInt_natCast, BitVec.toNat_ofNat]; exact Nat.mod_eq_of_lt (by omega)
  have h2 : (BitVec.ofInt 64 (b : Int)).toNat = b := by
    rw [BitVec.ofInt_natCast, BitVec.toNat_ofNat]; exact Nat.mod_eq_of_lt (by omega)
  show IntKind.i64.wrap ((BitVec.ofInt 64 (a : Int) ||| BitVec.ofInt 64 (b : Int)).toNat : Int) = _
  rw [BitVec.toNat_or, h1, h2, IntKind.wrap_i64]
  omega
theorem or_low {a s : Nat} (hs : s < 64) : (a * 64) ||| s = a * 64 + s := by
  have := Nat.two_pow_add_eq_or_of_lt (i := 6) (b := s) (by omega) a
  rw [Nat.mul_comm]
  exact this.symm

theorem bitLen_log {x : Nat} (h0 : x ≠ 0) (h : x < 2 ^ 64) : Lib.bitLen x = Nat.log2 x + 1 := by
  obtain ⟨a, b, c⟩ := Lib.bitLenAux_bounds 64 x h h0
  have e : Nat.log2 x = Lib.bitLenAux 64 x - 1 := (Nat.log2_eq_iff h0).2 ⟨b, by rw [Nat.sub_add_cancel a]; exact c⟩
  unfold Lib.bitLen
  omega

theorem len64_any (x : Nat) (w : World) (h : x < 18446744073709551616) : Calls Tryd.prog 46 #[.int .u64 x] w fun e w' => e = .returned (.int .i64 (Lib.bitLen x)) ∧ w = w' := by
  refine (Tryd.bits_Len64 (x : Int) w (by omega) (by omega)).mono ?_
  rintro e w' ⟨rfl, rfl⟩
  exact ⟨by simp, rfl⟩

theorem lev_is_len {a b : Nat} (hne : a ≠ b) (ha : a < 2 ^ 63) (hb : b < 2 ^ 63) : ((Lib.bitLen (a ^^^ b) : Int) - 1).tdiv 6 = (lev a b : Int) := by
  have hx : a ^^^ b < 2 ^ 63 := Nat.xor_lt_two_pow ha hb
  rw [bitLen_log (fun h => hne (xor_zero h)) (by omega)]
  unfold lev
  rw [Int.tdiv_eq_ediv_of_nonneg (by omega)]
  omega

set_option maxRecDepth 100000 in
theorem place_far (a b : Nat) (hne : a < b) (hb : (b : Int) ≤ 1099511627776) (h6 : 6 ≤ lev a b) (w : World) : Calls Tryd.prog 32 #[.int .i64 a, .int .i64 b] w fun e w' => e = .returned (.tuple #[.int .i64 6, .int .i64 0]) ∧ w = w' := by
  have hx : a ^^^ b < 2 ^ 63 := Nat.xor_lt_two_pow (by omega) (by omega)
  have e1 : bits .xor .i64 (a : Int) (b : Int) = ((a ^^^ b : Nat) : Int) := bits_xor_i64_nat a b (by omega) (by omega)
  obtain ⟨L, hL, hq⟩ : ∃ L : Nat, Lib.bitLen (a ^^^ b) = L + 1 ∧ Hid ((L : Int) / 6 = (lev a b : Int)) := by
    have e2 := bitLen_log (x := a ^^^ b) (fun h => by have := xor_zero h; omega) (by omega)
    exact ⟨_, e2, by unfold Hid lev; omega⟩
  have hl : Lib.bitLen (a ^^^ b) ≤ 64 := Lib.bitLen_le _ 64 (by omega) (by omega)
  have hL2 : (L : Int) ≤ 63 := by omega
  have cl := Lib.hid (fun W => len64_any (a ^^^ b) W (by omega))
  rw [hL] at cl
  clear hL hl
  have h6' : (6 : Int) ≤ (lev a b : Int) := by omega
  clear h6
  have e0 : ((a ^^^ b : Nat) : Int) < 9223372036854775808 := by omega
  generalize lev a b = i at *
  generalize a ^^^ b = x at *
  go_enter Tryd.func32, Tryd.ntmps32
  go_wp2_with (first | (simp only [e1]))
  refine (cl.out _).mono ?_
  rintro e w1 ⟨rfl, rfl⟩
  go_upto_region 2 with fail
  rw [hq.out]
  clear hq hL2 cl e0 e1 hx
  go_wp2_with fail
  go_ret2
  exact ⟨rfl, rfl⟩
set_option maxRecDepth 100000 in
set_option maxHeartbeats 1000000 in
theorem place_near (a b : Nat) (hne : a < b) (hb : (b : Int) ≤ 1099511627776) (h6 : lev a b < 6) (w : World) : Calls Tryd.prog 32 #[.int .i64 a, .int .i64 b] w fun e w' => e = .returned (.tuple #[.int .i64 (lev a b : Nat), .int .i64 (b / 64 ^ (lev a b) % 64 : Nat)]) ∧ ∃ m, w' = w.drewN m := by
  have hx : a ^^^ b < 2 ^ 63 := Nat.xor_lt_two_pow (by omega) (by omega)
  have e1 : bits .xor .i64 (a : Int) (b : Int) = ((a ^^^ b : Nat) : Int) := bits_xor_i64_nat a b (by omega) (by omega)
  obtain ⟨L, hL, hq⟩ : ∃ L : Nat, Lib.bitLen (a ^^^ b) = L + 1 ∧ Hid ((L : Int) / 6 = (lev a b : Int)) := by
    have e2 := bitLen_log (x := a ^^^ b) (fun h => by have := xor_zero h; omega) (by omega)
    exact ⟨_, e2, by unfold Hid lev; omega⟩
  have hl : Lib.bitLen (a ^^^ b) ≤ 64 := Lib.bitLen_le _ 64 (by omega) (by omega)
  have hL2 : (L : Int) ≤ 63 := by omega
  have cl := Lib.hid (fun W => len64_any (a ^^^ b) W (by omega))
  rw [hL] at cl
  clear hL hl
  have h6' : (lev a b : Int) < 6 := by omega
  clear h6
  have hp : (64 : Nat) ^ lev a b = 2 ^ (lev a b * 6) := by rw [show (64 : Nat) = 2 ^ 6 from rfl, ← Nat.pow_mul, Nat.mul_comm]
  rw [hp]
  clear hp
  have e0 : ((a ^^^ b : Nat) : Int) < 9223372036854775808 := by omega
  generalize lev a b = i at *
  generalize a ^^^ b = x at *
  go_enter Tryd.func32, Tryd.ntmps32
  go_wp2_with (first | (simp only [e1]))
  refine (cl.out _).mono ?_
  rintro e w1 ⟨rfl, rfl⟩
  go_upto_region 2 with fail
  rw [hq.out]
  clear hq hL2 cl e0 e1 hx
  go_upto_region 4 with fail

  rcases (show i = 0 ∨ i = 1 ∨ i = 2 ∨ i = 3 ∨ i = 4 ∨ i = 5 by omega) with rfl | rfl | rfl | rfl | rfl | rfl
  all_goals go_quiet (fail)
  all_goals go_wp2_with fail
  all_goals go_ret2
  all_goals exact ⟨by simp, nq, rfl⟩

theorem bgn_le {now i s : Nat} (hn : now ≤ 1099511627776) (hi : i < 6) (hs : s < 64) : bgn now i s ≤ 1168231104512 := by
  unfold bgn
  rcases (show i = 0 ∨ i = 1 ∨ i = 2 ∨ i = 3 ∨ i = 4 ∨ i = 5 by omega) with rfl | rfl | rfl | rfl | rfl | rfl <;> simp only [Nat.reducePow, Nat.reduceAdd] <;> omega
set_option maxRecDepth 100000 in
set_option maxHeartbeats 1000000 in
theorem beginning_any (now i s : Nat) (hn : (now : Int) ≤ 1099511627776) (hi : i < 6) (hs : (s : Int) < 64) (w : World) : Calls Tryd.prog 38 #[.int .i64 now, .int .i64 i, .int .i64 s] w fun e w' => e = .returned (.int .i64 (bgn now i s : Nat)) ∧ w = w' := by
  rcases (show i = 0 ∨ i = 1 ∨ i = 2 ∨ i = 3 ∨ i = 4 ∨ i = 5 by omega) with rfl | rfl | rfl | rfl | rfl | rfl
  all_goals
    clear hi
    unfold bgn
    simp only [Nat.reducePow, Nat.reduceAdd]
  · have e1 : bits .or .i64 ((now : Int) / 64 * 64) (s : Int) = ((now / 64 * 64 + s : Nat) : Int) := by
      rw [show (now : Int) / 64 * 64 = ((now / 64 * 64 : Nat) : Int) by omega, bits_or_i64_nat _ _ (by omega) (by omega), or_low (by omega)]
    go_enter Tryd.func38, Tryd.ntmps38
    go_wp2_with (simp only [e1])
    go_ret
    refine ⟨congrArg Ending.returned (congrArg (Value.int IntKind.i64) ?_), rfl⟩
    omega
  · have e1 : bits .or .i64 ((now : Int) / 4096 * 64) (s : Int) = ((now / 4096 * 64 + s : Nat) : Int) := by
      rw [show (now : Int) / 4096 * 64 = ((now / 4096 * 64 : Nat) : Int) by omega, bits_or_i64_nat _ _ (by omega) (by omega), or_low (by omega)]
    go_enter Tryd.func38, Tryd.ntmps38
    go_wp2_with (simp only [e1])
    go_ret
    refine ⟨congrArg Ending.returned (congrArg (Value.int IntKind.i64) ?_), rfl⟩
    omega
  · have e1 : bits .or .i64 ((now : Int) / 262144 * 64) (s : Int) = ((now / 262144 * 64 + s : Nat) : Int) := by
      rw [show (now : Int) / 262144 * 64 = ((now / 262144 * 64 : Nat) : Int) by omega, bits_or_i64_nat _ _ (by omega) (by omega), or_low (by omega)]
    go_enter Tryd.func38, Tryd.ntmps38
    go_wp2_with (simp only [e1])
    go_ret
    refine ⟨congrArg Ending.returned (congrArg (Value.int IntKind.i64) ?_), rfl⟩
    omega
  · have e1 : bits .or .i64 ((now : Int) / 16777216 * 64) (s : Int) = ((now / 16777216 * 64 + s : Nat) : Int) := by
      rw [show (now : Int) / 16777216 * 64 = ((now / 16777216 * 64 : Nat) : Int) by omega, bits_or_i64_nat _ _ (by omega) (by omega), or_low (by omega)]
    go_enter Tryd.func38, Tryd.ntmps38
    go_wp2_with (simp only [e1])
    go_ret
    refine ⟨congrArg Ending.returned (congrArg (Value.int IntKind.i64) ?_), rfl⟩
    omega
  · have e1 : bits .or .i64 ((now : Int) / 1073741824 * 64) (s : Int) = ((now / 1073741824 * 64 + s : Nat) : Int) := by
      rw [show (now : Int) / 1073741824 * 64 = ((now / 1073741824 * 64 : Nat) : Int) by omega, bits_or_i64_nat _ _ (by omega) (by omega), or_low (by omega)]
    go_enter Tryd.func38, Tryd.ntmps38
    go_wp2_with (simp only [e1])
    go_ret
    refine ⟨congrArg Ending.returned (congrArg (Value.int IntKind.i64) ?_), rfl⟩
    omega
  · have e1 : bits .or .i64 ((now : Int) / 68719476736 * 64) (s : Int) = ((now / 68719476736 * 64 + s : Nat) : Int) := by
      rw [show (now : Int) / 68719476736 * 64 = ((now / 68719476736 * 64 : Nat) : Int) by omega, bits_or_i64_nat _ _ (by omega) (by omega), or_low (by omega)]
    go_enter Tryd.func38, Tryd.ntmps38
    go_wp2_with (simp only [e1])
    go_ret
    refine ⟨congrArg Ending.returned (congrArg (Value.int IntKind.i64) ?_), rfl⟩
    omega

/-- The library's table of de Bruijn's numbers lies in the world. -/
def Bru (w : World) : Prop := ∀ j, j < 64 → w.cell? ⟨0, j, none⟩ = some (.int .u8 (Lib.deBruijn64tab.getD j 0 : Nat))

theorem low_key (x a : Nat) (hx : x < 18446744073709551616) (hx0 : x ≠ 0) (hlow : x &&& (18446744073709551616 - x) = a) :
    IntKind.u64.wrap (bits BinOp.and IntKind.u64 (x : Int) (IntKind.u64.wrap (-(x : Int))) * 285870213051353865) / 288230376151711744 = ((a * 285870213051353865 % 18446744073709551616 / 288230376151711744 : Nat) : Int) := by
  have e1 : IntKind.u64.wrap (-(x : Int)) = ((18446744073709551616 - x : Nat) : Int) := by rw [IntKind.wrap_u64]; omega
  rw [e1, bits_and_u64_nat x _ hx (by omega), hlow, IntKind.wrap_u64]
  omega

set_option maxHeartbeats 1000000 in
theorem zeros_core (x k idx : Nat) (w : World) (hx0 : ((x : Int) == 0) = false)
    (key : IntKind.u64.wrap (bits BinOp.and IntKind.u64 (x : Int) (IntKind.u64.wrap (-(x : Int))) * 285870213051353865) / 288230376151711744 = (idx : Int))
    (hi : idx < 64) (hk : k < 64) (hcell : w.cell? ⟨0, idx, none⟩ = some (.int .u8 k)) :
    Calls Tryd.prog 42 #[.int .u64 x] w fun e w' => e = .returned (.int .i64 k) ∧ w = w' := by
  go_enter Tryd.func42, Tryd.ntmps42
  go_wp2_with (simp only [key])
  go_ret
  exact ⟨rfl, rfl⟩
theorem zeros_any (x : Nat) (hx : x < 18446744073709551616) (hx0 : x ≠ 0) (w : World) (t : Bru w) : Calls Tryd.prog 42 #[.int .u64 x] w fun e w' => e = .returned (.int .i64 (Lib.ctz 64 x : Nat)) ∧ w = w' := by
  obtain ⟨hlow, hk⟩ := Lib.lowest_bit 64 x hx0 hx
  obtain ⟨hi, htab⟩ := Lib.deBruijn64_at _ hk
  have hcell := t _ hi
  rw [htab] at hcell
  exact zeros_core x _ _ w (by simp; omega) (low_key x _ hx hx0 hlow) hi hk hcell
theorem zeros_first (x : Nat) (h0 : x ≠ 0) (hx : x < 18446744073709551616) : Lib.ctz 64 x < 64 ∧ x.testBit (Lib.ctz 64 x) = true ∧ ∀ k, k < Lib.ctz 64 x → x.testBit k = false := by
  obtain ⟨m, hm, hk⟩ := Lib.ctzFrom_spec 64 x (by omega) hx
  have e : Lib.ctz 64 x = Lib.ctzFrom 64 x := by simp [Lib.ctz, h0]
  rw [e]
  generalize Lib.ctzFrom 64 x = c at *
  subst hm
  refine ⟨hk, ?_, fun k h => ?_⟩
  · rw [Nat.mul_comm, Nat.testBit_mul_two_pow]
    simp
  · rw [Nat.mul_comm, Nat.testBit_mul_two_pow]
    simp
    omega
end Go.Proofs.YthobffeafddonaaDoor
