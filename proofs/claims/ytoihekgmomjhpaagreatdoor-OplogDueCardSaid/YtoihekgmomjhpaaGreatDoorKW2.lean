/-
  Texts laid into one (a claim has 60 files at most): WCmp, WList.
-/
import Derived.Test.YtoihekgmomjhpaaGreatDoorKC1
import Derived.Test.YtoihekgmomjhpaaGreatDoorKW1
import Derived.Test.YtoihekgmomjhpaaGreatDoorProg
import Derived.RowKit
import Derived.BigQuiet
import Derived.Lib.Hide
import Derived.ProofKit
import Derived.WalkKit
import Derived.Deep.RegionHeld3
import Derived.Deep.DeepCutAuto
import Derived.Lib.BitFns
import Derived.Lib.ItoaNum
import Derived.Lib.TrailingZeros
import Derived.Laws.Bits64b
import Derived.DeepKeys
import Derived.OwnWalk
import Derived.Laws.OwnMore
import Derived.Laws.ResultCell
import Derived.Maps.AppendAt
/-
  Layer 6: cmp.Compare, cmp.Or and the program's compare; math/bits.Len64 and TrailingZeros64; place, beginning.
-/
set_option linter.unusedVariables false
namespace Go.Proofs.YtoihekgmomjhpaaGreatDoor.W
open Go.RowKit Whl
/-- A pair as a value. -/
def pairV (p : ItemN) : Value := .agg #[.int .i64 p.1, .int .i64 p.2]
def cmpI (a b : Int) : Int := if a < b then -1 else if b < a then 1 else 0
def orI (x y : Int) : Int := if x = 0 then y else x
theorem orI_yes {x y : Int} (h : x = 0) : orI x y = y := if_pos h
theorem orI_no {x y : Int} (h : x ≠ 0) : orI x y = x := if_neg h
def cmpP (p q : ItemN) : Int := orI (cmpI p.1 q.1) (cmpI p.2 q.2)
theorem isNaN_any (x : Int) (w : World) : Calls Tryz.prog 77 #[.int .i64 x] w fun e w' => e = .returned (.bool false) ∧ w = w' := by
  go_enter Tryz.func77, Tryz.ntmps77
  go_wp2_with fail
  go_ret
  exact ⟨by simp, rfl⟩
theorem compareI_any (x y : Int) (w : World) : Calls Tryz.prog 63 #[.int .i64 x, .int .i64 y] w fun e w' => e = .returned (.int .i64 (cmpI x y)) ∧ w = w' := by
  have c1 := fun W => isNaN_any x W
  have c2 := fun W => isNaN_any y W
  go_enter Tryz.func63, Tryz.ntmps63
  go_wp2_with fail
  refine (c1 _).mono ?_
  rintro e w1 ⟨rfl, rfl⟩
  go_wp2_with fail
  refine (c2 _).mono ?_
  rintro e w1 ⟨rfl, rfl⟩
  go_wp2_with fail
  all_goals go_ret
  all_goals refine ⟨?_, rfl⟩
  all_goals unfold cmpI
  all_goals first | (rw [if_pos (by omega)]; rfl) | (rw [if_neg (by omega), if_pos (by omega)]; rfl) | (rw [if_neg (by omega), if_neg (by omega)]; rfl)
def OrAt (x y : Int) (k : Nat) : Prop := (1 ≤ k → x = 0) ∧ (2 ≤ k → y = 0)
theorem or_any (g : Nat) (x y : Int) (w : World) (h0 : w.cell? ⟨g, 0, none⟩ = some (.int .i64 x)) (h1 : w.cell? ⟨g, 1, none⟩ = some (.int .i64 y)) :
    Calls Tryz.prog 131 #[.slice (some ⟨g, 0, none⟩) 2 2] w fun e w' => e = .returned (.int .i64 (orI x y)) ∧ w = w' := by
  go_enter Tryz.func131, Tryz.ntmps131
  go_wp2_with fail
  go_loopw [8] (fun v wr => ∃ k : Nat, v = .int .i64 k ∧ (k : Int) ≤ 2 ∧ Hid (OrAt x y k) ∧ w = wr) (fun v _ => (2 - intOf v).toNat)
  case atStart => exact ⟨0, rfl, by omega, ⟨fun h => by omega, fun h => by omega⟩, rfl⟩
  case round =>
    obtain ⟨k, rfl, hk, q, rfl⟩ := hrel
    by_cases h2 : (k : Int) < 2
    · rcases (show k = 0 ∨ k = 1 by omega) with rfl | rfl
      · go_wp2_with fail
        · go_ret
          next hh =>
          have hh2 : x ≠ 0 := by simpa using hh
          refine ⟨?_, rfl⟩
          rw [orI_no hh2]
          rfl
        · next hh =>
          have hh2 : x = 0 := by simpa using hh
          exact ⟨⟨1, rfl, by omega, ⟨fun _ => hh2, fun h => by omega⟩, by first | rfl | trivial⟩, by simp [intOf]⟩
      · go_wp2_with fail
        · go_ret
          refine ⟨?_, rfl⟩
          rw [orI_yes (q.out.1 (by omega))]
          rfl
        · next hh =>
          have hh2 : y = 0 := by simpa using hh
          exact ⟨⟨2, rfl, by omega, ⟨fun _ => q.out.1 (by omega), fun _ => hh2⟩, by first | rfl | trivial⟩, by simp [intOf]⟩
    · go_wp2_with fail
      go_ret
      refine ⟨?_, rfl⟩
      rw [orI_yes (q.out.1 (by omega)), q.out.2 (by omega)]
      rfl
theorem or_new (x y : Int) (w : World) : Calls Tryz.prog 131 #[.slice (some ⟨w.heap.size, 0, none⟩) 2 2] (w.alloc (.cells #[.int .i64 x, .int .i64 y] 3)).drew fun e w' => e = .returned (.int .i64 (orI x y)) ∧ (w.alloc (.cells #[.int .i64 x, .int .i64 y] 3)).drew = w' :=
  or_any _ x y _ (by go_simp) (by go_simp)
set_option maxHeartbeats 1000000 in
theorem compare_any (p q : ItemN) (w : World) : Calls Tryz.prog 95 #[pairV p, pairV q] w fun e w' => e = .returned (.int .i64 (cmpP p q)) ∧ Below w.heap.size w w' := by
  obtain ⟨a0, a1⟩ := p
  obtain ⟨b0, b1⟩ := q
  unfold pairV
  have c1 := Lib.hid (fun W => compareI_any (a0 : Int) (b0 : Int) W)
  have c2 := Lib.hid (fun W => compareI_any (a1 : Int) (b1 : Int) W)
  have c3 := Lib.hid (fun W => or_new (cmpI (a0 : Int) (b0 : Int)) (cmpI (a1 : Int) (b1 : Int)) W)
  go_enter Tryz.func95, Tryz.ntmps95
  go_upto_region 1 with fail
  have hb0 : Hid (Below w.heap.size w ((w.alloc (.cells #[.int .i64 (a0 : Int), .int .i64 (a1 : Int)] 100)).alloc (.cells #[.int .i64 (b0 : Int), .int .i64 (b1 : Int)] 100))) := ((Below.refl _ _).alloc (Nat.le_refl _) _).alloc (by simp) _
  have k0 : Hid (∀ W, Below ((w.alloc (.cells #[.int .i64 (a0 : Int), .int .i64 (a1 : Int)] 100)).alloc (.cells #[.int .i64 (b0 : Int), .int .i64 (b1 : Int)] 100)).heap.size ((w.alloc (.cells #[.int .i64 (a0 : Int), .int .i64 (a1 : Int)] 100)).alloc (.cells #[.int .i64 (b0 : Int), .int .i64 (b1 : Int)] 100)) W → W.cell? ⟨w.heap.size, 0, none⟩ = some (.int .i64 (a0 : Int)) ∧ W.cell? ⟨w.heap.size, 1, none⟩ = some (.int .i64 (a1 : Int)) ∧ W.cell? ⟨w.heap.size + 1, 0, none⟩ = some (.int .i64 (b0 : Int)) ∧ W.cell? ⟨w.heap.size + 1, 1, none⟩ = some (.int .i64 (b1 : Int))) := fun W hW => by
    refine ⟨(hW.cell (p := ⟨w.heap.size, 0, none⟩) (by simp; omega)).trans ?_, (hW.cell (p := ⟨w.heap.size, 1, none⟩) (by simp; omega)).trans ?_, (hW.cell (p := ⟨w.heap.size + 1, 0, none⟩) (by simp)).trans ?_, (hW.cell (p := ⟨w.heap.size + 1, 1, none⟩) (by simp)).trans ?_⟩
    all_goals go_simp
  generalize ((w.alloc (.cells #[.int .i64 (a0 : Int), .int .i64 (a1 : Int)] 100)).alloc (.cells #[.int .i64 (b0 : Int), .int .i64 (b1 : Int)] 100)) = w2 at *
  have hb : Hid (Below w2.heap.size w2 w2.drew) := (Below.refl _ _).drew
  have hcA := k0.out _ hb.out
  go_region_held3 (fun w' => w'.cell? ⟨w.heap.size, 0, none⟩ = some (.int .i64 (a0 : Int)) ∧ w'.cell? ⟨w.heap.size, 1, none⟩ = some (.int .i64 (a1 : Int)) ∧ w'.cell? ⟨w.heap.size + 1, 0, none⟩ = some (.int .i64 (b0 : Int)) ∧ w'.cell? ⟨w.heap.size + 1, 1, none⟩ = some (.int .i64 (b1 : Int))) (first | (with_reducible exact hcA) | (with_reducible exact k0.out _ (((Below.refl _ _).alloc (Nat.le_refl _) _).drew)) | go_keep)
    (first
      | (go_at_call 63; (with_reducible refine (c1.out _).mono ?_); rintro e w6 ⟨rfl, rfl⟩)
      | (go_at_call 63; (with_reducible refine (c2.out _).mono ?_); rintro e w6 ⟨rfl, rfl⟩)
      | (go_at_call 131; (with_reducible refine (c3.out _).mono ?_); rintro e w6 ⟨rfl, rfl⟩))
  go_wp2_with fail
  go_ret
  exact ⟨rfl, hb0.out.trans ((((Below.refl _ _).alloc (Nat.le_refl _) _).drew).mono hb0.out.size)⟩
/-! ### bits -/
theorem bits_xor_i64_nat (a b : Nat) (ha : a < 9223372036854775808) (hb : b < 9223372036854775808) : bits .xor .i64 (a : Int) (b : Int) = ((a ^^^ b : Nat) : Int) := by
  have hx : a ^^^ b < 2 ^ 63 := Nat.xor_lt_two_pow (by omega) (by omega)
  have h1 : (BitVec.ofInt 64 (a : Int)).toNat = a := by
    rw [BitVec.ofInt_natCast, BitVec.toNat_ofNat]; exact Nat.mod_eq_of_lt (by omega)
  have h2 : (BitVec.ofInt 64 (b : Int)).toNat = b := by
    rw [BitVec.ofInt_natCast, BitVec.toNat_ofNat]; exact Nat.mod_eq_of_lt (by omega)
  show IntKind.i64.wrap ((BitVec.ofInt 64 (a : Int) ^^^ BitVec.ofInt 64 (b : Int)).toNat : Int) = _
  rw [BitVec.toNat_xor, h1, h2, IntKind.wrap_i64]
  omega
theorem bits_or_i64_nat (a b : Nat) (ha : a < 9223372036854775808) (hb : b < 9223372036854775808) : bits .or .i64 (a : Int) (b : Int) = ((a ||| b : Nat) : Int) := by
  have hx : a ||| b < 2 ^ 63 := Nat.or_lt_two_pow (by omega) (by omega)
  have h1 : (BitVec.ofInt 64 (a : Int)).toNat = a := by
    rw [BitVec.ofInt_natCast, BitVec.toNat_ofNat]; exact Nat.mod_eq_of_lt (by omega)
  have h2 : (BitVec.ofInt 64 (b : Int)).toNat = b := by
    rw [BitVec.ofInt_natCast, BitVec.toNat_ofNat]; exact Nat.mod_eq_of_lt (by omega)
  show IntKind.i64.wrap ((BitVec.ofInt 64 (a : Int) ||| BitVec.ofInt 64 (b : Int)).toNat : Int) = _
  rw [BitVec.toNat_or, h1, h2, IntKind.wrap_i64]
  omega
theorem or_low {a s : Nat} (hs : s < 64) : (a * 64) ||| s = a * 64 + s := by
  have := Nat.two_pow_add_eq_or_of_lt (i := 6) (b := s) (by omega) a
  rw [Nat.mul_comm]
  exact this.symm
theorem bitLen_log {x : Nat} (h0 : x ≠ 0) (h : x < 2 ^ 64) : Lib.bitLen x = Nat.log2 x + 1 := by
  obtain ⟨a, b, c⟩ := Lib.bitLenAux_bounds 64 x h h0
  have e : Nat.log2 x = Lib.bitLenAux 64 x - 1 := (Nat.log2_eq_iff h0).2 ⟨b, by rw [Nat.sub_add_cancel a]; exact c⟩
  unfold Lib.bitLen
  omega
theorem len64_any (x : Nat) (w : World) (h : x < 18446744073709551616) : Calls Tryz.prog 130 #[.int .u64 x] w fun e w' => e = .returned (.int .i64 (Lib.bitLen x)) ∧ w = w' := by
  refine (Tryz.bits_Len64 (x : Int) w (by omega) (by omega)).mono ?_
  rintro e w' ⟨rfl, rfl⟩
  exact ⟨by simp, rfl⟩
set_option maxRecDepth 100000 in
theorem place_far (a b : Nat) (hne : a < b) (hb : (b : Int) ≤ 1099511627776) (h6 : 6 ≤ lev a b) (w : World) : Calls Tryz.prog 92 #[.int .i64 a, .int .i64 b] w fun e w' => e = .returned (.tuple #[.int .i64 6, .int .i64 0]) ∧ w = w' := by
  have hx : a ^^^ b < 2 ^ 63 := Nat.xor_lt_two_pow (by omega) (by omega)
  have e1 : bits .xor .i64 (a : Int) (b : Int) = ((a ^^^ b : Nat) : Int) := bits_xor_i64_nat a b (by omega) (by omega)
  obtain ⟨L, hL, hq⟩ : ∃ L : Nat, Lib.bitLen (a ^^^ b) = L + 1 ∧ Hid ((L : Int) / 6 = (lev a b : Int)) := by
    have e2 := bitLen_log (x := a ^^^ b) (fun h => by have := xor_zero h; omega) (by omega)
    exact ⟨_, e2, by unfold Hid lev; omega⟩
  have hl : Lib.bitLen (a ^^^ b) ≤ 64 := Lib.bitLen_le _ 64 (by omega) (by omega)
  have hL2 : (L : Int) ≤ 63 := by omega
  have cl := Lib.hid (fun W => len64_any (a ^^^ b) W (by omega))
  rw [hL] at cl
  clear hL hl
  have h6' : (6 : Int) ≤ (lev a b : Int) := by omega
  clear h6
  have e0 : ((a ^^^ b : Nat) : Int) < 9223372036854775808 := by omega
  generalize lev a b = i at *
  generalize a ^^^ b = x at *
  go_enter Tryz.func92, Tryz.ntmps92
  go_wp2_with (first | (simp only [e1]))
  refine (cl.out _).mono ?_
  rintro e w1 ⟨rfl, rfl⟩
  go_upto_region 2 with fail
  rw [hq.out]
  clear hq hL2 cl e0 e1 hx
  go_wp2_with fail
  go_ret2
  exact ⟨rfl, rfl⟩
set_option maxRecDepth 100000 in
set_option maxHeartbeats 1000000 in
theorem place_near (a b : Nat) (hne : a < b) (hb : (b : Int) ≤ 1099511627776) (h6 : lev a b < 6) (w : World) : Calls Tryz.prog 92 #[.int .i64 a, .int .i64 b] w fun e w' => e = .returned (.tuple #[.int .i64 (lev a b : Nat), .int .i64 (b / 64 ^ (lev a b) % 64 : Nat)]) ∧ ∃ m, w' = w.drewN m := by
  have hx : a ^^^ b < 2 ^ 63 := Nat.xor_lt_two_pow (by omega) (by omega)
  have e1 : bits .xor .i64 (a : Int) (b : Int) = ((a ^^^ b : Nat) : Int) := bits_xor_i64_nat a b (by omega) (by omega)
  obtain ⟨L, hL, hq⟩ : ∃ L : Nat, Lib.bitLen (a ^^^ b) = L + 1 ∧ Hid ((L : Int) / 6 = (lev a b : Int)) := by
    have e2 := bitLen_log (x := a ^^^ b) (fun h => by have := xor_zero h; omega) (by omega)
    exact ⟨_, e2, by unfold Hid lev; omega⟩
  have hl : Lib.bitLen (a ^^^ b) ≤ 64 := Lib.bitLen_le _ 64 (by omega) (by omega)
  have hL2 : (L : Int) ≤ 63 := by omega
  have cl := Lib.hid (fun W => len64_any (a ^^^ b) W (by omega))
  rw [hL] at cl
  clear hL hl
  have h6' : (lev a b : Int) < 6 := by omega
  clear h6
  have hp : (64 : Nat) ^ lev a b = 2 ^ (lev a b * 6) := by rw [show (64 : Nat) = 2 ^ 6 from rfl, ← Nat.pow_mul, Nat.mul_comm]
  rw [hp]
  clear hp
  have e0 : ((a ^^^ b : Nat) : Int) < 9223372036854775808 := by omega
  generalize lev a b = i at *
  generalize a ^^^ b = x at *
  go_enter Tryz.func92, Tryz.ntmps92
  go_wp2_with (first | (simp only [e1]))
  refine (cl.out _).mono ?_
  rintro e w1 ⟨rfl, rfl⟩
  go_upto_region 2 with fail
  rw [hq.out]
  clear hq hL2 cl e0 e1 hx
  go_upto_region 4 with fail

  rcases (show i = 0 ∨ i = 1 ∨ i = 2 ∨ i = 3 ∨ i = 4 ∨ i = 5 by omega) with rfl | rfl | rfl | rfl | rfl | rfl
  all_goals go_quiet (fail)
  all_goals go_wp2_with fail
  all_goals go_ret2
  all_goals exact ⟨by simp, nq, rfl⟩
theorem bgn_le {now i s : Nat} (hn : now ≤ 1099511627776) (hi : i < 6) (hs : s < 64) : bgn now i s ≤ 1168231104512 := by
  unfold bgn
  rcases (show i = 0 ∨ i = 1 ∨ i = 2 ∨ i = 3 ∨ i = 4 ∨ i = 5 by omega) with rfl | rfl | rfl | rfl | rfl | rfl <;> simp only [Nat.reducePow, Nat.reduceAdd] <;> omega
set_option maxRecDepth 100000 in
set_option maxHeartbeats 1000000 in
theorem beginning_any (now i s : Nat) (hn : (now : Int) ≤ 1099511627776) (hi : i < 6) (hs : (s : Int) < 64) (w : World) : Calls Tryz.prog 79 #[.int .i64 now, .int .i64 i, .int .i64 s] w fun e w' => e = .returned (.int .i64 (bgn now i s : Nat)) ∧ w = w' := by
  rcases (show i = 0 ∨ i = 1 ∨ i = 2 ∨ i = 3 ∨ i = 4 ∨ i = 5 by omega) with rfl | rfl | rfl | rfl | rfl | rfl
  all_goals
    clear hi
    unfold bgn
    simp only [Nat.reducePow, Nat.reduceAdd]
  · have e1 : bits .or .i64 ((now : Int) / 64 * 64) (s : Int) = ((now / 64 * 64 + s : Nat) : Int) := by
      rw [show (now : Int) / 64 * 64 = ((now / 64 * 64 : Nat) : Int) by omega, bits_or_i64_nat _ _ (by omega) (by omega), or_low (by omega)]
    go_enter Tryz.func79, Tryz.ntmps79
    go_wp2_with (simp only [e1])
    go_ret
    refine ⟨congrArg Ending.returned (congrArg (Value.int IntKind.i64) ?_), rfl⟩
    omega
  · have e1 : bits .or .i64 ((now : Int) / 4096 * 64) (s : Int) = ((now / 4096 * 64 + s : Nat) : Int) := by
      rw [show (now : Int) / 4096 * 64 = ((now / 4096 * 64 : Nat) : Int) by omega, bits_or_i64_nat _ _ (by omega) (by omega), or_low (by omega)]
    go_enter Tryz.func79, Tryz.ntmps79
    go_wp2_with (simp only [e1])
    go_ret
    refine ⟨congrArg Ending.returned (congrArg (Value.int IntKind.i64) ?_), rfl⟩
    omega
  · have e1 : bits .or .i64 ((now : Int) / 262144 * 64) (s : Int) = ((now / 262144 * 64 + s : Nat) : Int) := by
      rw [show (now : Int) / 262144 * 64 = ((now / 262144 * 64 : Nat) : Int) by omega, bits_or_i64_nat _ _ (by omega) (by omega), or_low (by omega)]
    go_enter Tryz.func79, Tryz.ntmps79
    go_wp2_with (simp only [e1])
    go_ret
    refine ⟨congrArg Ending.returned (congrArg (Value.int IntKind.i64) ?_), rfl⟩
    omega
  · have e1 : bits .or .i64 ((now : Int) / 16777216 * 64) (s : Int) = ((now / 16777216 * 64 + s : Nat) : Int) := by
      rw [show (now : Int) / 16777216 * 64 = ((now / 16777216 * 64 : Nat) : Int) by omega, bits_or_i64_nat _ _ (by omega) (by omega), or_low (by omega)]
    go_enter Tryz.func79, Tryz.ntmps79
    go_wp2_with (simp only [e1])
    go_ret
    refine ⟨congrArg Ending.returned (congrArg (Value.int IntKind.i64) ?_), rfl⟩
    omega
  · have e1 : bits .or .i64 ((now : Int) / 1073741824 * 64) (s : Int) = ((now / 1073741824 * 64 + s : Nat) : Int) := by
      rw [show (now : Int) / 1073741824 * 64 = ((now / 1073741824 * 64 : Nat) : Int) by omega, bits_or_i64_nat _ _ (by omega) (by omega), or_low (by omega)]
    go_enter Tryz.func79, Tryz.ntmps79
    go_wp2_with (simp only [e1])
    go_ret
    refine ⟨congrArg Ending.returned (congrArg (Value.int IntKind.i64) ?_), rfl⟩
    omega
  · have e1 : bits .or .i64 ((now : Int) / 68719476736 * 64) (s : Int) = ((now / 68719476736 * 64 + s : Nat) : Int) := by
      rw [show (now : Int) / 68719476736 * 64 = ((now / 68719476736 * 64 : Nat) : Int) by omega, bits_or_i64_nat _ _ (by omega) (by omega), or_low (by omega)]
    go_enter Tryz.func79, Tryz.ntmps79
    go_wp2_with (simp only [e1])
    go_ret
    refine ⟨congrArg Ending.returned (congrArg (Value.int IntKind.i64) ?_), rfl⟩
    omega
/-- The library's table of de Bruijn's numbers lies in the world. -/
def Bru (w : World) : Prop := ∀ j, j < 64 → w.cell? ⟨0, j, none⟩ = some (.int .u8 (Lib.deBruijn64tab.getD j 0 : Nat))
theorem low_key (x a : Nat) (hx : x < 18446744073709551616) (hx0 : x ≠ 0) (hlow : x &&& (18446744073709551616 - x) = a) :
    IntKind.u64.wrap (bits BinOp.and IntKind.u64 (x : Int) (IntKind.u64.wrap (-(x : Int))) * 285870213051353865) / 288230376151711744 = ((a * 285870213051353865 % 18446744073709551616 / 288230376151711744 : Nat) : Int) := by
  have e1 : IntKind.u64.wrap (-(x : Int)) = ((18446744073709551616 - x : Nat) : Int) := by rw [IntKind.wrap_u64]; omega
  rw [e1, bits_and_u64_nat x _ hx (by omega), hlow, IntKind.wrap_u64]
  omega
set_option maxHeartbeats 1000000 in
theorem zeros_core (x k idx : Nat) (w : World) (hx0 : ((x : Int) == 0) = false)
    (key : IntKind.u64.wrap (bits BinOp.and IntKind.u64 (x : Int) (IntKind.u64.wrap (-(x : Int))) * 285870213051353865) / 288230376151711744 = (idx : Int))
    (hi : idx < 64) (hk : k < 64) (hcell : w.cell? ⟨0, idx, none⟩ = some (.int .u8 k)) :
    Calls Tryz.prog 111 #[.int .u64 x] w fun e w' => e = .returned (.int .i64 k) ∧ w = w' := by
  go_enter Tryz.func111, Tryz.ntmps111
  go_wp2_with (simp only [key])
  go_ret
  exact ⟨rfl, rfl⟩
theorem zeros_any (x : Nat) (hx : x < 18446744073709551616) (hx0 : x ≠ 0) (w : World) (t : Bru w) : Calls Tryz.prog 111 #[.int .u64 x] w fun e w' => e = .returned (.int .i64 (Lib.ctz 64 x : Nat)) ∧ w = w' := by
  obtain ⟨hlow, hk⟩ := Lib.lowest_bit 64 x hx0 hx
  obtain ⟨hi, htab⟩ := Lib.deBruijn64_at _ hk
  have hcell := t _ hi
  rw [htab] at hcell
  exact zeros_core x _ _ w (by simp; omega) (low_key x _ hx hx0 hlow) hi hk hcell
theorem zeros_first (x : Nat) (h0 : x ≠ 0) (hx : x < 18446744073709551616) : Lib.ctz 64 x < 64 ∧ x.testBit (Lib.ctz 64 x) = true ∧ ∀ k, k < Lib.ctz 64 x → x.testBit k = false := by
  obtain ⟨m, hm, hk⟩ := Lib.ctzFrom_spec 64 x (by omega) hx
  have e : Lib.ctz 64 x = Lib.ctzFrom 64 x := by simp [Lib.ctz, h0]
  rw [e]
  generalize Lib.ctzFrom 64 x = c at *
  subst hm
  refine ⟨hk, ?_, fun k h => ?_⟩
  · rw [Nat.mul_comm, Nat.testBit_mul_two_pow]
    simp
  · rw [Nat.mul_comm, Nat.testBit_mul_two_pow]
    simp
    omega
end Go.Proofs.YtoihekgmomjhpaaGreatDoor.W

/-
  Layer 6: a list of pairs as it lies in memory; slices.Index, BinarySearchFunc, MinFunc at it, and the program's least.
-/
set_option linter.unusedVariables false
namespace Go.Proofs.YtoihekgmomjhpaaGreatDoor.W
open Go.RowKit Whl
/-- The cells of a list of pairs. -/
def flat (l : List ItemN) : List Value := l.flatMap fun p => [.int .i64 p.1, .int .i64 p.2]
theorem flat_len (l : List ItemN) : (flat l).length = l.length * 2 := by
  induction l with
  | nil => rfl
  | cons p r ih => simp only [flat, List.flatMap_cons, List.length_append, List.length_cons, List.length_nil] at ih ⊢; omega
theorem flat_app (l m : List ItemN) : flat (l ++ m) = flat l ++ flat m := by simp [flat]
theorem flat_cons (p : ItemN) (l : List ItemN) : flat (p :: l) = [.int .i64 (p.1 : Int), .int .i64 (p.2 : Int)] ++ flat l := by simp [flat]
theorem flat_take (l : List ItemN) (k : Nat) (hk : k ≤ l.length) : flat (l.take k) = (flat l).take (k * 2) := by
  have e := flat_app (l.take k) (l.drop k)
  rw [List.take_append_drop] at e
  rw [e, List.take_left' (by rw [flat_len, List.length_take]; omega)]
theorem flat_drop (l : List ItemN) (k : Nat) (hk : k ≤ l.length) : flat (l.drop k) = (flat l).drop (k * 2) := by
  have e := flat_app (l.take k) (l.drop k)
  rw [List.take_append_drop] at e
  rw [e, List.drop_left' (by rw [flat_len, List.length_take]; omega)]
theorem flat_at (l : List ItemN) (i : Nat) (hi : i < l.length) : (flat l)[i * 2]? = some (.int .i64 (l[i].1 : Int)) ∧ (flat l)[i * 2 + 1]? = some (.int .i64 (l[i].2 : Int)) := by
  have e : l = l.take i ++ l[i] :: l.drop (i + 1) := by rw [List.getElem_cons_drop, List.take_append_drop]
  have h : flat l = flat (l.take i) ++ ([.int .i64 (l[i].1 : Int), .int .i64 (l[i].2 : Int)] ++ flat (l.drop (i + 1))) := by
    rw [← flat_cons, ← flat_app, ← e]
  have hl : (flat (l.take i)).length = i * 2 := by rw [flat_len, List.length_take]; omega
  rw [h]
  constructor
  · rw [List.getElem?_append_right (by omega), hl]; simp
  · rw [List.getElem?_append_right (by omega), hl]; simp [show i * 2 + 1 - i * 2 = 1 by omega]
theorem flat_one (l : List ItemN) : ∀ u ∈ flat l, u.oneCell' = true := by
  intro u hu
  simp only [flat, List.mem_flatMap] at hu
  obtain ⟨p, _, hp⟩ := hu
  simp only [List.mem_cons, List.not_mem_nil, or_false] at hp
  rcases hp with rfl | rfl <;> rfl
/-- A list of pairs of one's own in the world. -/
def Rw (base : Nat) (w : World) (v : Value) (l : List ItemN) : Prop := w.ownsRow base 100 2 v l.length (flat l)
theorem Rw.form {base : Nat} {w : World} {v : Value} {l : List ItemN} (h : Rw base w v l) : (v = .slice none 0 0 ∧ l = []) ∨ ∃ g cap, v = .slice (some ⟨g, 0, none⟩) l.length cap ∧ base ≤ g ∧ g < w.heap.size := by
  rcases h.2 with ⟨h1, h2⟩ | ⟨g, cap, cur, h1, h2, h3, _⟩
  · exact .inl ⟨h1, List.length_eq_zero_iff.1 h2⟩
  · exact .inr ⟨g, cap, h1, h2, (Array.getElem?_eq_some_iff.1 h3).1⟩
theorem Rw.cells {base : Nat} {w : World} {l : List ItemN} {g cap : Nat} (h : Rw base w (.slice (some ⟨g, 0, none⟩) l.length cap) l) (i : Nat) (hi : i < l.length) :
    w.cell? ⟨g, i * 2, none⟩ = some (.int .i64 (l[i].1 : Int)) ∧ w.cell? ⟨g, i * 2 + 1, none⟩ = some (.int .i64 (l[i].2 : Int)) := by
  have hf := flat_at l i hi
  rw [World.ownsRow.cellAt h _ (by omega), World.ownsRow.cellAt h _ (by omega)]
  exact hf
theorem Rw.nil (base : Nat) (w : World) : Rw base w (.slice none 0 0) [] := World.ownsRow_nil w base 100 2
theorem Rw.below {base : Nat} {w w' : World} {v : Value} {l : List ItemN} (h : Rw base w v l) (k : Below w.heap.size w w') : Rw base w' v l :=
  World.ownsRow.kept h (row := none) ⟨k.os, k.tape, k.output, k.size, fun i hi _ => k.block i hi⟩ (by cases v.ownBlock <;> simp)
theorem Rw.look {base : Nat} {w : World} {v : Value} {l : List ItemN} (h : Rw base w v l) : ∃ a cap, v = .slice a l.length cap ∧ l.length ≤ cap ∧ cap ≤ maxLen ∧ ∀ i (hi : i < l.length), ∃ g, a = some ⟨g, 0, none⟩ := by
  rcases h.2 with ⟨h1, h2⟩ | ⟨g, cap, cur, h1, h2, h3, h4, h5, _⟩
  · exact ⟨none, 0, by rw [h1, h2], by omega, by omega, fun i hi => by omega⟩
  · exact ⟨some ⟨g, 0, none⟩, cap, h1, h4, h5, fun i hi => ⟨g, rfl⟩⟩
theorem below_drewN {B : Nat} {w w' : World} (h : Below B w w') : ∀ n, Below B w (w'.drewN n)
  | 0 => h
  | n + 1 => (below_drewN h n).drew
theorem cells3 : Tryz.prog.cellsOf 3 = 1 := by kernel_rfl
theorem info3 : ∃ i, Tryz.prog.info? 3 = some i := info_of_underlying Tryz.underlying3
theorem info52 : (Tryz.prog.info? 100).map (fun i => (i.zero, i.size, i.bytes)) = some (some (.agg #[.int .i64 0, .int .i64 0]), 2, 16) := by kernel_rfl
theorem equal_two (a0 a1 b0 b1 : Int) (w : World) :
    Sem.run Tryz.prog (Op.equalIn 10000 100 (.agg #[.int .i64 a0, .int .i64 a1]) (.agg #[.int .i64 b0, .int .i64 b1])) w = .ok (a0 == b0 && a1 == b1) w := by
  obtain ⟨i, hi⟩ := info3
  rw [show (10000 : Nat) = 9999 + 1 from rfl, run_equalIn_array w 9999 _ _ Tryz.underlying100 hi, cells3, show List.range 2 = [0, 1] from rfl]
  simp [Op.eqItems, part, go_sem, Tryz.underlying3]
  by_cases h0 : a0 = b0 <;> by_cases h1 : a1 = b1 <;> simp [h0, h1]
/-- A pair's box. -/
structure Bx (g : Nat) (w : World) (p : ItemN) : Prop where
  c0 : w.cell? ⟨g, 0, none⟩ = some (.int .i64 (p.1 : Int))
  c1 : w.cell? ⟨g, 1, none⟩ = some (.int .i64 (p.2 : Int))
theorem Bx.below {g : Nat} {w w' : World} {p : ItemN} (h : Bx g w p) (k : Below w.heap.size w w') : Bx g w' p :=
  ⟨(k.cell (p := ⟨g, 0, none⟩) (World.block_lt_of_cell? w _ h.c0)).trans h.c0, (k.cell (p := ⟨g, 1, none⟩) (World.block_lt_of_cell? w _ h.c1)).trans h.c1⟩
theorem Bx.start (w : World) (p : ItemN) : Bx w.heap.size (w.alloc (.cells #[.int .i64 (p.1 : Int), .int .i64 (p.2 : Int)] 100)) p := ⟨by go_simp, by go_simp⟩
set_option maxRecDepth 100000 in
set_option maxHeartbeats 1000000 in
theorem index_any (base : Nat) (v : Value) (l : List ItemN) (p : ItemN) (w : World) (hr : Rw base w v l) (hp : p ∈ l) (hlen : l.length ≤ 1000000) :
    Calls Tryz.prog 128 #[v, pairV p] w fun e w' => e = .returned (.int .i64 (l.idxOf p : Nat)) ∧ Below w.heap.size w w' := by
  have hl : 0 < l.length := List.length_pos_of_mem hp
  rcases hr.form with ⟨_, h0⟩ | ⟨g, cap, rfl, hg1, hg2⟩
  · subst h0; simp at hl
  have hx : l.idxOf p < l.length := List.idxOf_lt_length_of_mem hp
  have B1 := Lib.hid (Bx.start w p)
  have b1 := Lib.hid ((Below.refl w.heap.size w).alloc (Nat.le_refl _) (.cells #[.int .i64 (p.1 : Int), .int .i64 (p.2 : Int)] 100))
  have R1 := Lib.hid (hr.below b1.out)
  have hn : (l.length : Int) ≤ 1000000 := by omega
  have hat : Hid (∀ j (hj : j < l.length), j < l.idxOf p → l[j] ≠ p) := fun j hj hlt e => by
    have := List.not_of_lt_findIdx (p := (· == p)) (xs := l) (show j < l.findIdx (· == p) from hlt)
    simp [e] at this
  have hat2 : Hid (l[l.idxOf p] = p) := List.getElem_idxOf hx
  replace hx := Lib.hid hx
  have heq := equal_two
  generalize l.idxOf p = X at *
  obtain ⟨p0, p1⟩ := p
  unfold pairV
  clear hr
  go_enter Tryz.func128, Tryz.ntmps128
  go_wp2_with fail
  go_loopw [8] (fun v wr => ∃ k : Nat, v = .int .i64 k ∧ (k : Int) ≤ l.length ∧ Hid (k ≤ X) ∧ Hid (Bx w.heap.size wr (p0, p1)) ∧ Hid (Below w.heap.size w wr) ∧ Hid (Rw base wr (.slice (some ⟨g, 0, none⟩) l.length cap) l)) (fun v _ => ((l.length : Int) - intOf v).toNat)
  case atStart => exact ⟨0, rfl, by omega, Nat.zero_le _, B1, b1, R1⟩
  case round =>
    obtain ⟨k, rfl, hk, hkX, B2, b2, R2⟩ := hrel
    clear B1 b1 R1
    have hkl : (k : Int) < l.length := by have := hkX.out; have := hx.out; omega
    obtain ⟨c0, c1⟩ := R2.out.cells k (by omega)
    have d0 := B2.out.c0
    have d1 := B2.out.c1
    generalize hq : l[k] = q at *
    obtain ⟨q0, q1⟩ := q
    simp only at c0 c1 d0 d1
    cases hb : ((p0 : Int) == (q0 : Int) && (p1 : Int) == (q1 : Int)) with
    | true =>
      have hXk : Hid (k = X) := by
        have h2 : q0 = p0 ∧ q1 = p1 := by simp at hb; omega
        rcases Nat.lt_or_ge k X with h3 | h3
        · exact absurd (by rw [hq, h2.1, h2.2]) (hat.out k (by omega) h3)
        · exact Nat.le_antisymm hkX.out h3
      clear hq
      go_wp2_with fail
      go_quiet (fail)
      go_wp2_with fail
      go_ret
      exact ⟨by rw [← hXk.out]; rfl, below_drewN b2.out nq⟩
    | false =>
      have hXk : Hid (k + 1 ≤ X) := by
        rcases Nat.lt_or_ge k X with h3 | h3
        · exact h3
        · have e : k = X := Nat.le_antisymm hkX.out h3
          subst e
          have h4 := hat2.out
          rw [hq] at h4
          injection h4 with h5 h6
          subst h5 h6
          simp at hb
      clear hq
      go_wp2_with fail
      go_quiet (fail)
      go_wp2_with fail
      exact ⟨⟨k + 1, by go_num, by omega, hXk, B2.out.below (below_drewN (Below.refl _ _) nq), below_drewN b2.out nq, R2.out.below (below_drewN (Below.refl _ _) nq)⟩, by simp [intOf]; omega⟩
theorem cmpP_lt (p q : ItemN) : (cmpP p q < 0) ↔ ltB p q = true := by
  rw [ltB_iff]
  unfold cmpP cmpI orI
  split <;> (try split) <;> (try split) <;> omega
def FoundAt (X : Nat) (e : Ending) : Prop := ∃ b, e = .returned (.tuple #[.int .i64 (X : Int), .bool b])
/-- All ahead of i are less, none from j on. -/
def Mid (l : List ItemN) (p : ItemN) (i j : Nat) : Prop := (∀ k (hk : k < l.length), k < i → ltB l[k] p = true) ∧ ∀ k (hk : k < l.length), j ≤ k → ltB l[k] p = false
theorem Mid.count {l : List ItemN} {p : ItemN} {i : Nat} (h : Mid l p i i) (hi : i ≤ l.length) : l.countP (ltB · p) = i := by
  have e : l.countP (ltB · p) = (l.take i).countP (ltB · p) + (l.drop i).countP (ltB · p) := by rw [← List.countP_append, List.take_append_drop]
  have e1 : (l.take i).countP (ltB · p) = (l.take i).length := by
    rw [List.countP_eq_length]
    intro q hq
    obtain ⟨k, hk, rfl⟩ := List.mem_iff_getElem.1 hq
    rw [List.length_take] at hk
    rw [List.getElem_take]
    exact h.1 k (by omega) (by omega)
  have e2 : (l.drop i).countP (ltB · p) = 0 := by
    rw [List.countP_eq_zero]
    intro q hq
    obtain ⟨k, hk, rfl⟩ := List.mem_iff_getElem.1 hq
    rw [List.length_drop] at hk
    rw [List.getElem_drop, h.2 (i + k) (by omega) (by omega)]
    simp
  rw [e, e1, e2, List.length_take]
  omega
theorem Mid.low {l : List ItemN} {p : ItemN} {i j h : Nat} (m : Mid l p i j) (hu : Up l) (hh : h < l.length) (hl : ltB l[h] p = true) : Mid l p (h + 1) j := by
  refine ⟨fun k hk hlt => ?_, m.2⟩
  rcases Nat.lt_or_ge k h with g | g
  · exact ltB_trans (List.pairwise_iff_getElem.1 hu k h hk hh g) hl
  · have e : k = h := by omega
    subst e; exact hl
theorem Mid.high {l : List ItemN} {p : ItemN} {i j h : Nat} (m : Mid l p i j) (hu : Up l) (hh : h < l.length) (hl : ltB l[h] p = false) : Mid l p i h := by
  refine ⟨m.1, fun k hk hge => ?_⟩
  rcases Nat.lt_or_ge h k with g | g
  · cases hb : ltB l[k] p with
    | false => rfl
    | true => rw [ltB_trans (List.pairwise_iff_getElem.1 hu h k hh hk g) hb] at hl; cases hl
  · have e : k = h := by omega
    subst e; exact hl
set_option maxRecDepth 100000 in
set_option maxHeartbeats 2000000 in
/-- The place at which a pair is to stand. -/
theorem search_any (base : Nat) (v : Value) (l : List ItemN) (p : ItemN) (w : World) (hr : Rw base w v l) (hup : Up l) (hlen : l.length ≤ 1000000) :
    Calls Tryz.prog 94 #[v, pairV p, .func (.func 95) #[] #[]] w fun e w' => FoundAt (l.countP (ltB · p)) e ∧ Below w.heap.size w w' := by
  obtain ⟨a, cap, rfl, _, _, ha⟩ := hr.look
  have B1 := Lib.hid (Bx.start w p)
  have b1 := Lib.hid ((Below.refl w.heap.size w).alloc (Nat.le_refl _) (.cells #[.int .i64 (p.1 : Int), .int .i64 (p.2 : Int)] 100))
  have R1 := Lib.hid (hr.below b1.out)
  have hn : (l.length : Int) ≤ 1000000 := by omega
  have m0 : Hid (Mid l p 0 l.length) := ⟨fun k hk h => by omega, fun k hk h => by omega⟩
  have hc : Hid (∀ i, i ≤ l.length → Mid l p i i → l.countP (ltB · p) = i) := fun i hi m => m.count hi
  have hlo : Hid (∀ i j h (hh : h < l.length), Mid l p i j → ltB l[h] p = true → Mid l p (h + 1) j) := fun i j h hh m => m.low hup hh
  have hhi : Hid (∀ i j h (hh : h < l.length), Mid l p i j → ltB l[h] p = false → Mid l p i h) := fun i j h hh m => m.high hup hh
  have cc := Lib.hid (fun W q => compare_any q p W)
  generalize l.countP (ltB · p) = X at *
  replace ha := Lib.hid ha
  clear hr hup hlen
  obtain ⟨p0, p1⟩ := p
  unfold pairV at *
  go_enter Tryz.func94, Tryz.ntmps94
  go_wp2_with fail
  go_loopw [9, 10] (fun vi vj wr => ∃ i j : Nat, vi = .int .i64 i ∧ vj = .int .i64 j ∧ (i : Int) ≤ j ∧ (j : Int) ≤ l.length ∧ Hid (Mid l (p0, p1) i j) ∧ Hid (Bx w.heap.size wr (p0, p1)) ∧ Hid (Below w.heap.size w wr) ∧ Hid (Rw base wr (.slice a l.length cap) l)) (fun vi vj _ => (intOf vj - intOf vi).toNat)
  case atStart => exact ⟨0, l.length, rfl, rfl, by omega, by omega, m0, B1, b1, R1⟩
  case round =>
    obtain ⟨i, j, rfl, rfl, hij, hj, m1, B2, b2, R2⟩ := hrel
    clear B1 b1 R1
    have d0 := B2.out.c0
    have d1 := B2.out.c1
    by_cases hlt : (i : Int) < j
    · obtain ⟨h, hh⟩ : ∃ h : Nat, ((i : Int) + j) / 2 = (h : Int) := ⟨(i + j) / 2, by omega⟩
      have hhl : h < l.length := by omega
      obtain ⟨g, rfl⟩ := ha.out h hhl
      obtain ⟨c0, c1⟩ := R2.out.cells h hhl
      generalize hq : l[h] = q at *
      have hcm := cmpP_lt q (p0, p1)
      obtain ⟨q0, q1⟩ := q
      simp only at c0 c1 d0 d1
      have cq := Lib.hid (fun W => cc.out W (q0, q1))
      simp only at cq
      have hi0 : (0 : Int) ≤ h := by omega
      have hhl2 : (h : Int) < l.length := by omega
      go_upto_region 5 with (simp only [hh])
      have hg : g < wr.heap.size := World.block_lt_of_cell? wr _ c0
      have hw : w.heap.size < wr.heap.size := World.block_lt_of_cell? wr _ d0
      have hS : Hid (∀ W, Below wr.heap.size wr W → W.cell? ⟨g, h * 2, none⟩ = some (.int .i64 (q0 : Int)) ∧ W.cell? ⟨g, h * 2 + 1, none⟩ = some (.int .i64 (q1 : Int)) ∧ W.cell? ⟨w.heap.size, 0, none⟩ = some (.int .i64 (p0 : Int)) ∧ W.cell? ⟨w.heap.size, 1, none⟩ = some (.int .i64 (p1 : Int))) := fun W hW =>
        ⟨(hW.cell (p := ⟨g, h * 2, none⟩) hg).trans c0, (hW.cell (p := ⟨g, h * 2 + 1, none⟩) hg).trans c1, (hW.cell (p := ⟨w.heap.size, 0, none⟩) hw).trans d0, (hW.cell (p := ⟨w.heap.size, 1, none⟩) hw).trans d1⟩
      have hb : Hid (Below wr.heap.size wr wr.drew) := (Below.refl _ _).drew
      have hcA := hS.out _ hb.out
      clear c0 c1 d0 d1 hg hw
      generalize hC : cmpP (q0, q1) (p0, p1) = C at *
      replace hcm := Lib.hid hcm
      replace hq := Lib.hid hq
      clear hC
      go_region_held3 (fun W => W.cell? ⟨g, h * 2, none⟩ = some (.int .i64 (q0 : Int)) ∧ W.cell? ⟨g, h * 2 + 1, none⟩ = some (.int .i64 (q1 : Int)) ∧ W.cell? ⟨w.heap.size, 0, none⟩ = some (.int .i64 (p0 : Int)) ∧ W.cell? ⟨w.heap.size, 1, none⟩ = some (.int .i64 (p1 : Int))) (first | (with_reducible exact hc6) | (with_reducible exact hcA) | go_keep)
        (first
          | (go_at_call 95; (with_reducible refine (cq.out _).mono ?_); rintro e w6 ⟨rfl, k6⟩; replace hb := Lib.hid (hb.out.trans (k6.mono hb.out.size)); have hc6 := hS.out _ hb.out; clear k6))
      have b3 := Lib.hid (b2.out.trans (hb.out.mono b2.out.size))
      have B3 := Lib.hid (B2.out.below hb.out)
      have R3 := Lib.hid (R2.out.below hb.out)
      by_cases hC0 : C < 0
      · have m2 : Hid (Mid l (p0, p1) (h + 1) j) := hlo.out i j h hhl m1.out (by rw [hq.out]; exact hcm.out.1 hC0)
        go_wp2_with fail
        exact ⟨⟨h + 1, j, by go_num, rfl, by omega, by omega, m2, B3, b3, R3⟩, by simp [intOf]; omega⟩
      · have m2 : Hid (Mid l (p0, p1) i h) := hhi.out i j h hhl m1.out (by
          rw [hq.out]
          cases hx : ltB (q0, q1) (p0, p1) with
          | false => rfl
          | true => exact absurd (hcm.out.2 hx) hC0)
        go_wp2_with fail
        exact ⟨⟨i, h, rfl, rfl, by omega, by omega, m2, B3, b3, R3⟩, by simp [intOf]; omega⟩
    · have hX : Hid (X = i) := hc.out i (by omega) (by have e : j = i := by omega
                                                       rw [e] at m1; exact m1.out)
      by_cases hin : (i : Int) < l.length
      · obtain ⟨g, rfl⟩ := ha.out i (by omega)
        obtain ⟨c0, c1⟩ := R2.out.cells i (by omega)
        generalize l[i] = q at *
        obtain ⟨q0, q1⟩ := q
        simp only at c0 c1 d0 d1
        have cq := Lib.hid (fun W => cc.out W (q0, q1))
        simp only at cq
        have hg : g < wr.heap.size := World.block_lt_of_cell? wr _ c0
        have hw : w.heap.size < wr.heap.size := World.block_lt_of_cell? wr _ d0
        have hS : Hid (∀ W, Below wr.heap.size wr W → W.cell? ⟨g, i * 2, none⟩ = some (.int .i64 (q0 : Int)) ∧ W.cell? ⟨g, i * 2 + 1, none⟩ = some (.int .i64 (q1 : Int)) ∧ W.cell? ⟨w.heap.size, 0, none⟩ = some (.int .i64 (p0 : Int)) ∧ W.cell? ⟨w.heap.size, 1, none⟩ = some (.int .i64 (p1 : Int))) := fun W hW =>
          ⟨(hW.cell (p := ⟨g, i * 2, none⟩) hg).trans c0, (hW.cell (p := ⟨g, i * 2 + 1, none⟩) hg).trans c1, (hW.cell (p := ⟨w.heap.size, 0, none⟩) hw).trans d0, (hW.cell (p := ⟨w.heap.size, 1, none⟩) hw).trans d1⟩
        have hb : Hid (Below wr.heap.size wr wr.drew) := (Below.refl _ _).drew
        have hcA := hS.out _ hb.out
        clear c0 c1 d0 d1 hg hw
        generalize cmpP (q0, q1) (p0, p1) = C at *
        go_upto_region 8 with fail
        go_region_held3 (fun W => W.cell? ⟨g, i * 2, none⟩ = some (.int .i64 (q0 : Int)) ∧ W.cell? ⟨g, i * 2 + 1, none⟩ = some (.int .i64 (q1 : Int)) ∧ W.cell? ⟨w.heap.size, 0, none⟩ = some (.int .i64 (p0 : Int)) ∧ W.cell? ⟨w.heap.size, 1, none⟩ = some (.int .i64 (p1 : Int))) (first | (with_reducible exact hc6) | (with_reducible exact hcA) | go_keep)
          (first
            | (go_at_call 95; (with_reducible refine (cq.out _).mono ?_); rintro e w6 ⟨rfl, k6⟩; replace hb := Lib.hid (hb.out.trans (k6.mono hb.out.size)); have hc6 := hS.out _ hb.out; clear k6))
        all_goals
          go_wp2_with fail
          go_ret2
          exact ⟨⟨_, by rw [hX.out]; rfl⟩, b2.out.trans (hb.out.mono b2.out.size)⟩
      · have hb : Hid (Below wr.heap.size wr wr.drew) := (Below.refl _ _).drew
        go_upto_region 8 with fail
        go_quiet (fail)
        go_wp2_with fail
        go_ret2
        exact ⟨⟨_, by rw [hX.out]; rfl⟩, below_drewN b2.out nq⟩
end Go.Proofs.YtoihekgmomjhpaaGreatDoor.W
