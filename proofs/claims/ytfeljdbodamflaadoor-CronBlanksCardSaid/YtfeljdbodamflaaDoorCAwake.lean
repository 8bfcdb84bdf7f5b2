/-
  The fixed answers that every statement of layer 4 asks first.
-/
import Derived.Test.YtfeljdbodamflaaDoorCText
import Derived.Test.YtfeljdbodamflaaDoorCParse
import Derived.Test.YtfeljdbodamflaaDoorNames
set_option linter.unusedVariables false
namespace Go.Proofs.YtfeljdbodamflaaDoor
open Go.RowKit Crn

/-- The cells of a block from its first one on. -/
def Lies (W : World) (g : Nat) (vs : List Value) : Prop := ∀ i (h : i < vs.length), W.cell? ⟨g, i, none⟩ = some vs[i]
theorem Lies.start (w : World) (vs : List Value) (t : TypeId) (cs : Array Value) (h : cs.toList = vs) : Lies (w.alloc (.cells cs t)) w.heap.size vs := fun i hi => by
  subst h
  rw [World.cell?_alloc_new]
  simp
theorem Lies.step {W W2 : World} {g : Nat} {vs : List Value} (h : Lies W g vs) (h0 : 0 < vs.length) (k : Below W.heap.size W W2) : Lies W2 g vs := fun i hi =>
  (k.cell (p := ⟨g, i, none⟩) (show g < W.heap.size from World.block_lt_of_cell? W _ (h 0 h0))).trans (h i hi)
theorem Lies.eight {W : World} {g : Nat} {v0 v1 v2 v3 v4 v5 v6 v7 : Value} (h : Lies W g [v0, v1, v2, v3, v4, v5, v6, v7]) : W.cell? ⟨g, 0, none⟩ = some v0 ∧ W.cell? ⟨g, 1, none⟩ = some v1 ∧ W.cell? ⟨g, 2, none⟩ = some v2 ∧ W.cell? ⟨g, 3, none⟩ = some v3 ∧ W.cell? ⟨g, 4, none⟩ = some v4 ∧ W.cell? ⟨g, 5, none⟩ = some v5 ∧ W.cell? ⟨g, 6, none⟩ = some v6 ∧ W.cell? ⟨g, 7, none⟩ = some v7 :=
  ⟨h 0 (Nat.le_of_ble_eq_true rfl), h 1 (Nat.le_of_ble_eq_true rfl), h 2 (Nat.le_of_ble_eq_true rfl), h 3 (Nat.le_of_ble_eq_true rfl), h 4 (Nat.le_of_ble_eq_true rfl), h 5 (Nat.le_of_ble_eq_true rfl), h 6 (Nat.le_of_ble_eq_true rfl), h 7 (Nat.le_of_ble_eq_true rfl)⟩

theorem awake_fits : Fits ⟨1, 1, 2 ^ 13, 8190, 32, false, false, -90⟩ := by constructor <;> decide

theorem awake_p1 (W : World) (t : Tab W) : Calls Tryd.prog 11 #[.string ⟨#[42, 47, 49, 53, 32, 48, 45, 54, 47, 50, 32, 49, 44, 49, 53, 32, 106, 97, 110, 45, 109, 97, 114, 32, 109, 111, 110]⟩] W fun e w' => e = .returned (.tuple #[.agg #[.int .u64 35185445863425, .int .u64 85, .int .u64 32770, .int .u64 14, .int .u64 2, .bool false, .bool false, .int .i64 0], .int .i64 0]) ∧ Below W.heap.size W w' := by
  have c := cParse_any ⟨#[42, 47, 49, 53, 32, 48, 45, 54, 47, 50, 32, 49, 44, 49, 53, 32, 106, 97, 110, 45, 109, 97, 114, 32, 109, 111, 110]⟩ W t (by decide)
  rw [show parse (⟨#[42, 47, 49, 53, 32, 48, 45, 54, 47, 50, 32, 49, 44, 49, 53, 32, 106, 97, 110, 45, 109, 97, 114, 32, 109, 111, 110]⟩ : ByteArray).data.toList = _ from awake_one] at c
  exact c
theorem awake_p2 (W : World) (t : Tab W) : Calls Tryd.prog 11 #[.string ⟨#[32, 48, 32, 48, 9, 49, 51, 32, 42, 32, 53, 32, 45, 48, 49, 51, 48, 32]⟩] W fun e w' => e = .returned (.tuple #[.agg #[.int .u64 1, .int .u64 1, .int .u64 8192, .int .u64 8190, .int .u64 32, .bool false, .bool false, .int .i64 (-90)], .int .i64 0]) ∧ Below W.heap.size W w' := by
  have c := cParse_any ⟨#[32, 48, 32, 48, 9, 49, 51, 32, 42, 32, 53, 32, 45, 48, 49, 51, 48, 32]⟩ W t (by decide)
  rw [show parse (⟨#[32, 48, 32, 48, 9, 49, 51, 32, 42, 32, 53, 32, 45, 48, 49, 51, 48, 32]⟩ : ByteArray).data.toList = _ from awake_two] at c
  exact c
theorem awake_p3 (W : World) (t : Tab W) : Calls Tryd.prog 11 #[.string ⟨#[54, 48, 32, 42, 32, 42, 32, 42, 32, 42]⟩] W fun e w' => e = .returned (.tuple #[.agg #[.int .u64 0, .int .u64 0, .int .u64 0, .int .u64 0, .int .u64 0, .bool false, .bool false, .int .i64 0], .int .i64 7]) ∧ Below W.heap.size W w' := by
  have c := cParse_any ⟨#[54, 48, 32, 42, 32, 42, 32, 42, 32, 42]⟩ W t (by decide)
  rw [show parse (⟨#[54, 48, 32, 42, 32, 42, 32, 42, 32, 42]⟩ : ByteArray).data.toList = _ from awake_three] at c
  exact c
theorem awake_d1 (W : World) : Calls Tryd.prog 17 #[.agg #[.int .u64 1, .int .u64 1, .int .u64 8192, .int .u64 8190, .int .u64 32, .bool false, .bool false, .int .i64 (-90)], .int .i64 2, .int .i64 13, .int .i64 1] W fun e w' => e = .returned (.bool true) ∧ Below W.heap.size W w' := by
  have c := cDay_any ⟨1, 1, 2 ^ 13, 8190, 32, false, false, -90⟩ awake_fits 2 13 1 W (by decide) (by decide) (by decide) (by decide) (by decide) (by decide)
  rw [awake_days.1] at c
  exact c
theorem awake_d2 (W : World) : Calls Tryd.prog 17 #[.agg #[.int .u64 1, .int .u64 1, .int .u64 8192, .int .u64 8190, .int .u64 32, .bool false, .bool false, .int .i64 (-90)], .int .i64 2, .int .i64 9, .int .i64 5] W fun e w' => e = .returned (.bool true) ∧ Below W.heap.size W w' := by
  have c := cDay_any ⟨1, 1, 2 ^ 13, 8190, 32, false, false, -90⟩ awake_fits 2 9 5 W (by decide) (by decide) (by decide) (by decide) (by decide) (by decide)
  rw [awake_days.2.1] at c
  exact c
theorem awake_d3 (W : World) : Calls Tryd.prog 17 #[.agg #[.int .u64 1, .int .u64 1, .int .u64 8192, .int .u64 8190, .int .u64 32, .bool false, .bool false, .int .i64 (-90)], .int .i64 2, .int .i64 9, .int .i64 1] W fun e w' => e = .returned (.bool false) ∧ Below W.heap.size W w' := by
  have c := cDay_any ⟨1, 1, 2 ^ 13, 8190, 32, false, false, -90⟩ awake_fits 2 9 1 W (by decide) (by decide) (by decide) (by decide) (by decide) (by decide)
  rw [awake_days.2.2] at c
  exact c
theorem awake_t (W : World) (t : Tab W) : Calls Tryd.prog 15 #[.agg #[.int .u64 1, .int .u64 1, .int .u64 8192, .int .u64 8190, .int .u64 32, .bool false, .bool false, .int .i64 (-90)]] W fun e w' => e = .returned (.string ⟨#[48, 32, 48, 32, 49, 51, 32, 49, 44, 50, 44, 51, 44, 52, 44, 53, 44, 54, 44, 55, 44, 56, 44, 57, 44, 49, 48, 44, 49, 49, 44, 49, 50, 32, 53, 32, 45, 48, 49, 51, 48]⟩) ∧ Below W.heap.size W w' := by
  have c := cText_any ⟨1, 1, 2 ^ 13, 8190, 32, false, false, -90⟩ awake_fits W t
  rw [awake_text] at c
  exact c

set_option maxRecDepth 100000 in
set_option maxHeartbeats 1000000 in
theorem awake_any (w : World) (tb : Tab w) : Calls Tryd.prog 10 #[] w fun e w' => e = .returned (.bool true) ∧ Below w.heap.size w w' := by
  have c1 := Lib.hid (awake_p1 w tb)
  have P2 := Lib.hid awake_p2
  have P3 := Lib.hid awake_p3
  have D1 := Lib.hid awake_d1
  have D2 := Lib.hid awake_d2
  have D3 := Lib.hid awake_d3
  have T := Lib.hid awake_t
  go_enter Tryd.func10, Tryd.ntmps10
  go_wp2_with fail
  refine c1.out.mono ?_
  rintro e w1 ⟨rfl, k1⟩
  have hx := Lib.hid (Lies.start w1 [.int .u64 35185445863425, .int .u64 85, .int .u64 32770, .int .u64 14, .int .u64 2, .bool false, .bool false, .int .i64 0] 25 #[.int .u64 35185445863425, .int .u64 85, .int .u64 32770, .int .u64 14, .int .u64 2, .bool false, .bool false, .int .i64 0] rfl)
  have ka := (Below.refl w1.heap.size w1).alloc (Nat.le_refl _) (.cells #[.int .u64 35185445863425, .int .u64 85, .int .u64 32770, .int .u64 14, .int .u64 2, .bool false, .bool false, .int .i64 0] 25)
  have tb1 := Lib.hid ((tb.below k1).below ka)
  have b1 := Lib.hid (k1.trans (ka.mono k1.size))
  clear k1 ka tb c1
  have c2 := Lib.hid (P2.out _ tb1.out)
  go_wp2_with fail
  refine c2.out.mono ?_
  generalize w1.alloc (.cells #[.int .u64 35185445863425, .int .u64 85, .int .u64 32770, .int .u64 14, .int .u64 2, .bool false, .bool false, .int .i64 0] 25) = v1 at *
  generalize w1.heap.size = gx at *
  rintro e w2 ⟨rfl, k2⟩
  replace hx := Lib.hid (hx.out.step (by decide) k2)
  have hy := Lib.hid (Lies.start w2 [.int .u64 1, .int .u64 1, .int .u64 8192, .int .u64 8190, .int .u64 32, .bool false, .bool false, .int .i64 (-90)] 25 #[.int .u64 1, .int .u64 1, .int .u64 8192, .int .u64 8190, .int .u64 32, .bool false, .bool false, .int .i64 (-90)] rfl)
  have ka := (Below.refl w2.heap.size w2).alloc (Nat.le_refl _) (.cells #[.int .u64 1, .int .u64 1, .int .u64 8192, .int .u64 8190, .int .u64 32, .bool false, .bool false, .int .i64 (-90)] 25)
  replace hx := Lib.hid (hx.out.step (by decide) ka)
  have tb2 := Lib.hid ((tb1.out.below k2).below ka)
  have b2 := Lib.hid (b1.out.trans ((k2.trans (ka.mono k2.size)).mono b1.out.size))
  clear k2 ka tb1 c2 b1
  have c3 := Lib.hid (P3.out _ tb2.out)
  go_wp2_with fail
  refine c3.out.mono ?_
  generalize w2.alloc (.cells #[.int .u64 1, .int .u64 1, .int .u64 8192, .int .u64 8190, .int .u64 32, .bool false, .bool false, .int .i64 (-90)] 25) = v2 at *
  generalize w2.heap.size = gy at *
  rintro e w3 ⟨rfl, k3⟩
  have ka := (Below.refl w3.heap.size w3).alloc (Nat.le_refl _) (.cells #[.int .u64 0, .int .u64 0, .int .u64 0, .int .u64 0, .int .u64 0, .bool false, .bool false, .int .i64 0] 25)
  replace hx := Lib.hid ((hx.out.step (by decide) k3).step (by decide) ka)
  replace hy := Lib.hid ((hy.out.step (by decide) k3).step (by decide) ka)
  have tb3 := Lib.hid ((tb2.out.below k3).below ka)
  have b3 := Lib.hid (b2.out.trans ((k3.trans (ka.mono k3.size)).mono b2.out.size))
  clear k3 ka tb2 c3 b2
  obtain ⟨x0, x1, x2, x3, x4, x5, x6, x7⟩ := hx.out.eight
  obtain ⟨y0, y1, y2, y3, y4, y5, y6, y7⟩ := hy.out.eight
  go_wp2_with fail
  refine (D1.out _).mono ?_
  clear x0 x1 x2 x3 x4 x5 x6 x7 y0 y1 y2 y3 y4 y5 y6 y7 hx
  generalize w3.alloc (.cells #[.int .u64 0, .int .u64 0, .int .u64 0, .int .u64 0, .int .u64 0, .bool false, .bool false, .int .i64 0] 25) = v3 at *
  generalize w3.heap.size = gz at *
  rintro e w4 ⟨rfl, k4⟩
  replace hy := Lib.hid (hy.out.step (by decide) k4)
  have tb4 := Lib.hid (tb3.out.below k4)
  have b4 := Lib.hid (b3.out.trans (k4.mono b3.out.size))
  clear k4 tb3 b3
  obtain ⟨y0, y1, y2, y3, y4, y5, y6, y7⟩ := hy.out.eight
  go_wp2_with fail
  refine (D2.out _).mono ?_
  clear y0 y1 y2 y3 y4 y5 y6 y7
  rintro e w5 ⟨rfl, k5⟩
  replace hy := Lib.hid (hy.out.step (by decide) k5)
  have tb5 := Lib.hid (tb4.out.below k5)
  have b5 := Lib.hid (b4.out.trans (k5.mono b4.out.size))
  clear k5 tb4 b4
  obtain ⟨y0, y1, y2, y3, y4, y5, y6, y7⟩ := hy.out.eight
  go_wp2_with fail
  refine (D3.out _).mono ?_
  clear y0 y1 y2 y3 y4 y5 y6 y7
  rintro e w6 ⟨rfl, k6⟩
  replace hy := Lib.hid (hy.out.step (by decide) k6)
  have tb6 := Lib.hid (tb5.out.below k6)
  have b6 := Lib.hid (b5.out.trans (k6.mono b5.out.size))
  clear k6 tb5 b5
  obtain ⟨y0, y1, y2, y3, y4, y5, y6, y7⟩ := hy.out.eight
  have ct := Lib.hid (T.out _ tb6.out)
  go_wp2_with fail
  refine ct.out.mono ?_
  clear y0 y1 y2 y3 y4 y5 y6 y7
  rintro e w7 ⟨rfl, k7⟩
  have b7 := Lib.hid (b6.out.trans (k7.mono b6.out.size))
  clear k7 tb6 b6 ct
  go_wp2_with fail
  go_ret
  exact ⟨rfl, b7.out⟩
end Go.Proofs.YtfeljdbodamflaaDoor
