/-
  Layer 6: the answers that the document fixes.
-/
import Derived.Test.YthobffeafddonaaDoorWAwake
set_option linter.unusedVariables false
namespace Go.Proofs.YthobffeafddonaaDoor
open Go.RowKit Whl

theorem After.below {base : Nat} {w w' : World} {O O' : Nat → Prop} {b now : Nat} {l : List ItemN} {n0 : Nat} {l0 : List ItemN} (h : WT base w b n0 l0 O) (a : After base w O w' b now l O') (hb : base ≤ w.heap.size) : Below base w w' := a.kp.below h.low hb
theorem Rw.after {base b2 : Nat} {w w' : World} {O O' : Nat → Prop} {b now : Nat} {l : List ItemN} {v : Value} {l2 : List ItemN} (h : Rw b2 w v l2) (a : After base w O w' b now l O') (hn : ∀ k, v.ownBlock = some k → ¬ O k) : Rw b2 w' v l2 ∧ ∀ k, v.ownBlock = some k → ¬ O' k := by
  refine ⟨h.kp a.kp hn, fun k hk hO => ?_⟩
  rcases a.own k hO with e | e
  · exact hn k hk e
  · have := (World.ownsRow.lt h k hk).2
    omega
/-- A list that is written out. -/
theorem lit_row (w : World) (l : List ItemN) (cs : Array Value) (hc : cs.toList = flat l) (hl : l.length ≤ 1000) : Rw 0 (w.alloc (.cells cs 52)) (.slice (some ⟨w.heap.size, 0, none⟩) l.length l.length) l := by
  have := World.ownsRow_lit (base := 0) (e := 52) (size := 2) w cs l.length (Nat.zero_le _) (by unfold maxLen; omega) (by rw [← Array.length_toList, hc, flat_len])
  rw [hc] at this
  exact this

set_option maxHeartbeats 4000000 in
set_option maxRecDepth 100000 in
theorem awake_any (w : World) (tb : Bru w) : Calls Tryd.prog 8 #[] w fun e w' => e = .returned (.bool true) ∧ Below w.heap.size w w' := by
  have hpos : 0 < w.heap.size := Nat.lt_of_le_of_lt (Nat.zero_le _) (World.block_lt_of_cell? w _ (tb 0 (by omega)))
  have cN := Lib.hid (new_any w.heap.size w 0 0 (by omega) (Nat.le_refl _) hpos tb)
  have cS := Lib.hid (fun W l O (id a : Nat) (h : WT w.heap.size W w.heap.size 0 l O) (hn : ∀ p, p ∈ l → p.2 ≠ id) (hid : id ≤ 1048576) (ha : a ≤ 1099511627776) (hl : l.length < 1000) => set_new w.heap.size W w.heap.size 0 l O id a h hn hid ha hl)
  have cA := Lib.hid (fun W now l O n h => advance_any w.heap.size W w.heap.size now l O n h)
  have cD := Lib.hid (fun W now l O n h => due_any w.heap.size W w.heap.size now l O n h)
  have cM := Lib.hid (fun b1 b2 v1 v2 l1 l2 W h1 h2 hl1 hl2 r hr => same_any b1 b2 v1 v2 l1 l2 W h1 h2 hl1 hl2 r hr)
  have hb0 := Lib.hid (Nat.le_refl w.heap.size)
  clear tb hpos
  go_enter Tryd.func8, Tryd.ntmps8
  go_wp2_with fail
  refine cN.out.mono ?_
  rintro e w1 ⟨rfl, wt1, k1⟩
  replace k1 := Lib.hid k1
  have c1 := Lib.hid (cS.out w1 [] _ 1 70 wt1 (fun p hp => by simp at hp) (by omega) (by omega) (by simp))
  replace wt1 := Lib.hid wt1
  clear cN
  go_wp2_with fail
  refine c1.out.mono ?_
  rintro e w2 ⟨rfl, O2, A2⟩
  have k2 := Lib.hid (k1.out.trans (A2.below wt1.out k1.out.size))
  have hl2 : ins (70, 1) [] = [(70, 1)] := rfl
  rw [hl2] at A2
  have c2 := Lib.hid (cS.out w2 _ _ 2 5 A2.wt (fun p hp => by simp at hp; rw [hp]; simp) (by omega) (by omega) (by simp))
  have wt2 := Lib.hid A2.wt
  clear c1 wt1 k1 A2 hl2
  go_wp2_with fail
  refine c2.out.mono ?_
  rintro e w3 ⟨rfl, O3, A3⟩
  have k3 := Lib.hid (k2.out.trans (A3.below wt2.out k2.out.size))
  have hl3 : ins (5, 2) [(70, 1)] = [(5, 2), (70, 1)] := by decide
  rw [hl3] at A3
  have c3 := Lib.hid (cS.out w3 _ _ 3 70 A3.wt (fun p hp => by simp at hp; rcases hp with e | e <;> (rw [e]; simp)) (by omega) (by omega) (by simp))
  have wt3 := Lib.hid A3.wt
  clear c2 wt2 k2 A3 hl3
  go_wp2_with fail
  refine c3.out.mono ?_
  rintro e w4 ⟨rfl, O4, A4⟩
  have k4 := Lib.hid (k3.out.trans (A4.below wt3.out k3.out.size))
  have hl4 : ins (70, 3) [(5, 2), (70, 1)] = [(5, 2), (70, 1), (70, 3)] := by decide
  rw [hl4] at A4
  have c4 := Lib.hid (cA.out w4 _ _ _ 6 A4.wt)
  rw [show max 0 (min (6 : Int) 1099511627776).toNat = 6 by decide, show comeBy [(5, 2), (70, 1), (70, 3)] 0 6 = [(5, 2)] by decide] at c4
  have wt4 := Lib.hid A4.wt
  clear c3 wt3 k3 A4 hl4 cS
  go_wp2_with fail
  refine c4.out.mono ?_
  rintro e w5 ⟨v5, O5, rfl, A5, R5, n5⟩
  have k5 := Lib.hid (k4.out.trans (A5.below wt4.out k4.out.size))
  have c5 := Lib.hid (cA.out w5 _ _ _ 5000 A5.wt)
  rw [show max 6 (min (5000 : Int) 1099511627776).toNat = 5000 by decide, show comeBy [(5, 2), (70, 1), (70, 3)] 6 5000 = [(70, 1), (70, 3)] by decide] at c5
  have wt5 := Lib.hid A5.wt
  replace R5 := Lib.hid R5
  replace n5 := Lib.hid n5
  clear c4 wt4 k4 A5 cA
  go_wp2_with fail
  refine c5.out.mono ?_
  rintro e w6 ⟨v6, O6, rfl, A6, R6, n6⟩
  have k6 := Lib.hid (k5.out.trans (A6.below wt5.out k5.out.size))
  have R56 := Lib.hid (R5.out.after A6 n5.out).1
  have c6 := Lib.hid (cD.out w6 _ _ _ 9 A6.wt)
  rw [show (dueBy [(5, 2), (70, 1), (70, 3)] 5000).take (9 : Int).toNat = [(5, 2), (70, 1), (70, 3)] by decide] at c6
  have wt6 := Lib.hid A6.wt
  replace R6 := Lib.hid R6
  clear c5 wt5 k5 A6 cD n5 n6 R5
  go_wp2_with fail
  refine c6.out.mono ?_
  rintro e w7 ⟨v7, rfl, R7, g7⟩
  have k7 := Lib.hid (k6.out.trans (g7.mono k6.out.size))
  have R57 := Lib.hid (R56.out.below g7)
  have R67 := Lib.hid (R6.out.below g7)
  have wt7 := Lib.hid (wt6.out.below g7)
  replace R7 := Lib.hid R7
  clear c6 wt6 k6 g7 R56 R6
  have hbld : ∀ (x y : Int) W, (Instr.build 52 #[(0, .int .i64 x), (1, .int .i64 y)]).run Tryd.prog W = .ok (.agg #[.int .i64 x, .int .i64 y]) W := fun x y W => by kernel_rfl
  go_wp2_with fail
  have al7 := (Below.refl w7.heap.size w7).alloc (Nat.le_refl _) (.cells #[.int .i64 5, .int .i64 2] 52)
  have cm7 := Lib.hid (cM.out _ 0 v5 (.slice (some ⟨w7.heap.size, 0, none⟩) 1 1) [(5, 2)] [(5, 2)] (w7.alloc (.cells #[.int .i64 5, .int .i64 2] 52)) (R57.out.below al7) (lit_row w7 [(5, 2)] #[.int .i64 5, .int .i64 2] rfl (by simp)) (by simp) (by simp) true (by decide))
  refine cm7.out.mono ?_
  rintro e w8 ⟨rfl, g⟩
  have g8 : Below w7.heap.size w7 w8 := al7.trans (g.mono al7.size)
  have k8 := Lib.hid (k7.out.trans (g8.mono k7.out.size))
  have R68 := Lib.hid (R67.out.below g8)
  have R78 := Lib.hid (R7.out.below g8)
  have wt8 := Lib.hid (wt7.out.below g8)
  clear g g8 al7 cm7 k7 R57 R67 R7 wt7
  go_wp2_with fail
  have al8 := (Below.refl w8.heap.size w8).alloc (Nat.le_refl _) (.cells #[.int .i64 70, .int .i64 1, .int .i64 70, .int .i64 3] 52)
  have cm8 := Lib.hid (cM.out _ 0 v6 (.slice (some ⟨w8.heap.size, 0, none⟩) 2 2) [(70, 1), (70, 3)] [(70, 1), (70, 3)] (w8.alloc (.cells #[.int .i64 70, .int .i64 1, .int .i64 70, .int .i64 3] 52)) (R68.out.below al8) (lit_row w8 [(70, 1), (70, 3)] #[.int .i64 70, .int .i64 1, .int .i64 70, .int .i64 3] rfl (by simp)) (by simp) (by simp) true (by decide))
  refine cm8.out.mono ?_
  rintro e w9 ⟨rfl, g⟩
  have g9 : Below w8.heap.size w8 w9 := al8.trans (g.mono al8.size)
  have k9 := Lib.hid (k8.out.trans (g9.mono k8.out.size))
  have R79 := Lib.hid (R78.out.below g9)
  have wt9 := Lib.hid (wt8.out.below g9)
  clear g g9 al8 cm8 k8 R68 R78 wt8
  go_wp2_with fail
  have al9 := (Below.refl w9.heap.size w9).alloc (Nat.le_refl _) (.cells #[.int .i64 5, .int .i64 2, .int .i64 70, .int .i64 1, .int .i64 70, .int .i64 3] 52)
  have cm9 := Lib.hid (cM.out _ 0 v7 (.slice (some ⟨w9.heap.size, 0, none⟩) 3 3) [(5, 2), (70, 1), (70, 3)] [(5, 2), (70, 1), (70, 3)] (w9.alloc (.cells #[.int .i64 5, .int .i64 2, .int .i64 70, .int .i64 1, .int .i64 70, .int .i64 3] 52)) (R79.out.below al9) (lit_row w9 [(5, 2), (70, 1), (70, 3)] #[.int .i64 5, .int .i64 2, .int .i64 70, .int .i64 1, .int .i64 70, .int .i64 3] rfl (by simp)) (by simp) (by simp) true (by decide))
  refine cm9.out.mono ?_
  rintro e w10 ⟨rfl, g⟩
  have g10 : Below w9.heap.size w9 w10 := al9.trans (g.mono al9.size)
  have k10 := Lib.hid (k9.out.trans (g10.mono k9.out.size))
  have wt10 := Lib.hid (wt9.out.below g10)
  clear g g10 al9 cm9 k9 R79 wt9 cM
  have cn := Lib.hid (now_any _ _ _ _ _ _ wt10.out)
  have cl := Lib.hid (len_any _ _ _ _ _ _ wt10.out)
  have ca := Lib.hid (set_arg w.heap.size (-1) 0 w10 (by omega))
  go_wp2_with fail
  refine cn.out.mono ?_
  rintro e w11 ⟨rfl, rfl⟩
  go_wp2_with fail
  refine ca.out.mono ?_
  rintro e w11 ⟨rfl, rfl⟩
  go_wp2_with fail
  refine cl.out.mono ?_
  rintro e w11 ⟨rfl, rfl⟩
  go_wp2_with fail
  go_ret
  exact ⟨rfl, k10.out⟩
end Go.Proofs.YthobffeafddonaaDoor
