/-
  Texts laid into one (a claim has 60 files at most): WPut, WGo.
-/
import Derived.Test.YtoihekgmomjhpaaGreatDoorKW5
/-
  Layer 6: the wheel's putIn: one goes where its time, and the wheel's, tell.
-/
set_option linter.unusedVariables false
namespace Go.Proofs.YtoihekgmomjhpaaGreatDoor.W
open Go.RowKit Whl
theorem results_none {fn : Func} (h : fn.results = #[]) (tmps : Array Value) (P : Program) (w : World) : (results fn tmps).run P w = .ok (.tuple #[]) w := by
  simp [results, h]
theorem upd1_full {base : Nat} {w : World} {b now : Nat} {m : Value} {V : Nat → Value} {F : Nat → Nat} {L : Nat → List ItemN} (h : Wh base w b now m V F L) {c : Nat} (hc : IsL c) (v : Value) : ∀ i, i < 6 → upd1 (vw w b) c v (3 + i * 65) = some (.int .u64 (F i : Int)) := fun i hi => by
  rw [upd1_other _ _ (Ne.symm (isL_full hc hi))]
  exact h.full i hi
theorem Bits.put_out {F : Nat → Nat} {L : Nat → List ItemN} (h : Bits F L) {c : Nat} (hc : c = 2 ∨ c = 393) (l : List ItemN) : Bits F (put L c l) := fun i hi => ⟨(h i hi).1, fun s hs => by
  rw [put_other _ _ _ (by omega)]
  exact (h i hi).2 s hs⟩
set_option maxHeartbeats 4000000 in
set_option maxRecDepth 100000 in
theorem putIn_due (base : Nat) (w : World) (b now : Nat) (m : Value) (V : Nat → Value) (F : Nat → Nat) (L : Nat → List ItemN) (x : ItemN) (h : Wh base w b now m V F L) (hx : x.1 ≤ now) (hup : Up (L 2)) (hlen : (L 2).length ≤ 1000000) :
    Calls Tryz.prog 70 #[.pointer (some ⟨b, 0, none⟩), pairV x] w fun e w' => e = .returned (.tuple #[]) ∧ ∃ V', Step base w b V w' now m V' F (put L 2 (ins x (L 2))) := by
  have B1 := Bx.start w x
  have k1 := Lib.hid ((Below.refl w.heap.size w).alloc (Nat.le_refl _) (.cells #[.int .i64 (x.1 : Int), .int .i64 (x.2 : Int)] 100))
  obtain ⟨w1, hw1⟩ : ∃ w1, w.alloc (.cells #[.int .i64 (x.1 : Int), .int .i64 (x.2 : Int)] 100) = w1 := ⟨_, rfl⟩
  rw [hw1] at B1 k1
  have h1 := Lib.hid (h.below k1.out)
  have cs := Lib.hid (fun W (hW : Below w1.heap.size w1 W) => search_any base (V 2) (L 2) x W ((h1.out.below hW).row 2 (.inl rfl)) hup hlen)
  have hsp : Hid (ins x (L 2) = (L 2).take ((L 2).countP (ltB · x)) ++ x :: (L 2).drop ((L 2).countP (ltB · x))) := ins_split hup
  have hcl : (L 2).countP (ltB · x) ≤ (L 2).length := List.countP_le_length
  have ci := Lib.hid (fun W vb (hW : Below w1.heap.size w1 W) (hv : Bk vb W x) (hvb : (V 2).ownBlock ≠ some vb) => insert_any base (V 2) (L 2) x ((L 2).countP (ltB · x)) vb W ((h1.out.below hW).row 2 (.inl rfl)) hv hvb hcl (Nat.le_trans h.low (Nat.le_of_lt (h1.out.below hW).lt)) hlen)
  rw [← hsp.out] at ci
  have hX : ((L 2).countP (ltB · x) : Int) ≤ 1000000 := by omega
  clear hsp hcl hup
  generalize (L 2).countP (ltB · x) = X at *
  generalize ins x (L 2) = l2 at *
  have hu : Hid (∀ W1 W2 v8, Below w1.heap.size w1 W1 → Turned base W1 (V 2) W2 v8 l2 → W2.cell? ⟨b, 2, none⟩ = some (V 2) ∧ W2.frozen? ⟨b, 2, none⟩ = false ∧ Step base w b V (W2.setCell ⟨b, 2, none⟩ v8) now m (putV V 2 v8) F (put L 2 l2)) := fun W1 W2 v8 hW T => by
    have kk : Below w.heap.size w W1 := k1.out.trans (hW.mono k1.out.size)
    have u := Upd.store (c := 2) kk T h.lt (h.nb 2 (.inl rfl)) (by rw [h.slot 2 (.inl rfl)]; rfl)
    have e8 : W2.heap[b]? = w.heap[b]? := (T.grown.block b (Nat.lt_of_lt_of_le h.lt kk.size) (fun e => h.nb 2 (.inl rfl) e.symm)).trans (kk.block b h.lt)
    exact ⟨(World.cell?_of_block (w := w) (a := ⟨b, 2, none⟩) e8).trans (h.slot 2 (.inl rfl)), (World.frozen?_of_block (w := w) (a := ⟨b, 2, none⟩) e8).trans (h.free 2), h.upd (.inl rfl) u (upd1_same _ _ _) (fun d hd _ => upd1_other _ _ hd) (upd1_full h (.inl rfl) v8)⟩
  have hv2 : Hid (∀ k, (V 2).ownBlock = some k → k < w1.heap.size) := fun k hk => (World.ownsRow.lt (h1.out.row 2 (.inl rfl)) k hk).2
  have c0 := h1.out.now
  have c2 := h1.out.slot 2 (.inl rfl)
  obtain ⟨d0, d1⟩ := B1
  have hS : Hid (∀ W, Below w1.heap.size w1 W → W.cell? ⟨b, 2, none⟩ = some (V 2) ∧ W.cell? ⟨w.heap.size, 0, none⟩ = some (.int .i64 (x.1 : Int)) ∧ W.cell? ⟨w.heap.size, 1, none⟩ = some (.int .i64 (x.2 : Int))) := fun W hW =>
    ⟨(h1.out.below hW).slot 2 (.inl rfl), (hW.cell (p := ⟨w.heap.size, 0, none⟩) (World.block_lt_of_cell? w1 _ d0)).trans d0, (hW.cell (p := ⟨w.heap.size, 1, none⟩) (World.block_lt_of_cell? w1 _ d1)).trans d1⟩
  have hxn : (x.1 : Int) ≤ (now : Int) := by omega
  obtain ⟨x0, x1⟩ := x
  unfold pairV at *
  simp only at hw1 d0 d1 cs hxn hS
  clear h hlen hx k1
  go_enter Tryz.func70, Tryz.ntmps70
  go_upto_region 1 with fail
  clear hw1
  go_quiet (fail)
  have hb : Hid (Below w1.heap.size w1 (w1.drewN nq)) := below_drewN (Below.refl _ _) nq
  go_upto_region 2 with fail
  clear c0 c2 d0 d1
  generalize w1.drewN nq = w2 at *
  have hcA := hS.out w2.drew hb.out.drew
  replace hb := Lib.hid hb.out.drew
  go_region_held3 (fun W => W.cell? ⟨b, 2, none⟩ = some (V 2) ∧ W.cell? ⟨w.heap.size, 0, none⟩ = some (.int .i64 (x0 : Int)) ∧ W.cell? ⟨w.heap.size, 1, none⟩ = some (.int .i64 (x1 : Int))) (first | (with_reducible exact hc6) | (with_reducible exact hcA) | go_keep)
    (first
      | (go_at_call 94; (with_reducible refine (cs.out _ hb.out).mono ?_); rintro e w6 ⟨⟨bb, rfl⟩, k6⟩; replace hb := Lib.hid (hb.out.trans (k6.mono hb.out.size)); have hc6 := hS.out _ hb.out; clear k6))
  obtain ⟨c2, d0, d1⟩ := hc6
  clear hcA cs
  go_upto_region 3 with fail
  have c3 := Lib.hid (ci.out (w6.alloc (.cells #[.int .i64 (x0 : Int), .int .i64 (x1 : Int)] 100)).drew w6.heap.size (hb.out.trans ((((Below.refl _ _).alloc (Nat.le_refl _) _).drew).mono hb.out.size)) (Go.heap_alloc_new w6 _) (fun e => by have := hv2.out _ e; have := hb.out.size; omega))
  have hb3 := Lib.hid (hb.out.trans ((((Below.refl w6.heap.size w6).alloc (Nat.le_refl _) (.cells #[.int .i64 (x0 : Int), .int .i64 (x1 : Int)] 100)).drew).mono hb.out.size))
  have e2 := (hS.out (w6.alloc (.cells #[.int .i64 (x0 : Int), .int .i64 (x1 : Int)] 100)) (hb.out.trans (((Below.refl w6.heap.size w6).alloc (Nat.le_refl _) (.cells #[.int .i64 (x0 : Int), .int .i64 (x1 : Int)] 100)).mono hb.out.size))).1
  clear ci hv2
  go_region_with (first
    | (go_at_call 96; (with_reducible refine c3.out.mono ?_); rintro e w8 ⟨v8, rfl, T8⟩; obtain ⟨a8, cap8, rfl, _, _, _⟩ := T8.row.look; obtain ⟨y1, y2, y3⟩ := hu.out _ _ _ hb3.out T8; replace y3 := Lib.hid y3; clear T8))
  all_goals
    go_wp2_with fail
    refine bodyPost_ret (results_none rfl _ _ _) rfl ?_
    exact ⟨rfl, _, y3.out⟩
set_option maxHeartbeats 4000000 in
set_option maxRecDepth 100000 in
theorem putIn_far (base : Nat) (w : World) (b now : Nat) (m : Value) (V : Nat → Value) (F : Nat → Nat) (L : Nat → List ItemN) (x : ItemN) (h : Wh base w b now m V F L) (hx : now < x.1) (hx2 : (x.1 : Int) ≤ 1099511627776) (h6 : 6 ≤ lev now x.1) (hlen : (L 393).length ≤ 1000000) :
    Calls Tryz.prog 70 #[.pointer (some ⟨b, 0, none⟩), pairV x] w fun e w' => e = .returned (.tuple #[]) ∧ ∃ V', Step base w b V w' now m V' F (put L 393 (L 393 ++ [x])) := by
  have i3 : IsL 393 := .inr (.inl rfl)
  have B1 := Bx.start w x
  have k1 := Lib.hid ((Below.refl w.heap.size w).alloc (Nat.le_refl _) (.cells #[.int .i64 (x.1 : Int), .int .i64 (x.2 : Int)] 100))
  obtain ⟨w1, hw1⟩ : ∃ w1, w.alloc (.cells #[.int .i64 (x.1 : Int), .int .i64 (x.2 : Int)] 100) = w1 := ⟨_, rfl⟩
  rw [hw1] at B1 k1
  have h1 := Lib.hid (h.below k1.out)
  have cp := Lib.hid (fun W => place_far now x.1 hx hx2 h6 W)
  have ca := Lib.hid (fun W (hW : Below w1.heap.size w1 W) => append_pair base (V 393) (L 393) x W.heap.size (W.alloc (.cells #[.int .i64 (x.1 : Int), .int .i64 (x.2 : Int)] 100)).drew (((h1.out.below hW).row 393 i3).below ((((Below.refl _ _).alloc (Nat.le_refl _) _).drew))) (Go.heap_alloc_new W _) (Nat.le_trans h.low (Nat.le_of_lt (Nat.lt_of_lt_of_le (h1.out.below hW).lt (by show W.heap.size ≤ (W.alloc _).heap.size; simp)))) hlen)
  have hl2 : (L 393 ++ [x]).length = (L 393).length + 1 := by simp
  have hu : Hid (∀ W1 W2 v8 l2, Below w1.heap.size w1 W1 → Turned base W1 (V 393) W2 v8 l2 → W2.cell? ⟨b, 393, none⟩ = some (V 393) ∧ W2.frozen? ⟨b, 393, none⟩ = false ∧ Step base w b V (W2.setCell ⟨b, 393, none⟩ v8) now m (putV V 393 v8) F (put L 393 l2)) := fun W1 W2 v8 l2 hW T => by
    have kk : Below w.heap.size w W1 := k1.out.trans (hW.mono k1.out.size)
    have u := Upd.store (c := 393) kk T h.lt (h.nb 393 i3) (by rw [h.slot 393 i3]; rfl)
    have e8 : W2.heap[b]? = w.heap[b]? := (T.grown.block b (Nat.lt_of_lt_of_le h.lt kk.size) (fun e => h.nb 393 i3 e.symm)).trans (kk.block b h.lt)
    exact ⟨(World.cell?_of_block (w := w) (a := ⟨b, 393, none⟩) e8).trans (h.slot 393 i3), (World.frozen?_of_block (w := w) (a := ⟨b, 393, none⟩) e8).trans (h.free 393), h.upd i3 u (upd1_same _ _ _) (fun d hd _ => upd1_other _ _ hd) (upd1_full h i3 v8)⟩
  have c0 := h1.out.now
  obtain ⟨d0, d1⟩ := B1
  have hS : Hid (∀ W, Below w1.heap.size w1 W → W.cell? ⟨b, 393, none⟩ = some (V 393) ∧ W.cell? ⟨w.heap.size, 0, none⟩ = some (.int .i64 (x.1 : Int)) ∧ W.cell? ⟨w.heap.size, 1, none⟩ = some (.int .i64 (x.2 : Int))) := fun W hW =>
    ⟨(h1.out.below hW).slot 393 i3, (hW.cell (p := ⟨w.heap.size, 0, none⟩) (World.block_lt_of_cell? w1 _ d0)).trans d0, (hW.cell (p := ⟨w.heap.size, 1, none⟩) (World.block_lt_of_cell? w1 _ d1)).trans d1⟩
  have hS0 : Hid (∀ W, Below w1.heap.size w1 W → W.cell? ⟨b, 0, none⟩ = some (.int .i64 (now : Int)) ∧ W.cell? ⟨w.heap.size, 0, none⟩ = some (.int .i64 (x.1 : Int))) := fun W hW =>
    ⟨(h1.out.below hW).now, (hS.out W hW).2.1⟩
  have hxn : ¬ (x.1 : Int) ≤ (now : Int) := by omega
  generalize hl8 : L 393 ++ [x] = l8 at *
  clear hl8 hl2
  obtain ⟨x0, x1⟩ := x
  unfold pairV at *
  simp only at hw1 d0 d1 cp ca hxn hS hS0
  clear h hlen hx hx2 h6 k1
  go_enter Tryz.func70, Tryz.ntmps70
  go_upto_region 1 with fail
  clear hw1
  go_quiet (fail)
  have hb : Hid (Below w1.heap.size w1 (w1.drewN nq)) := below_drewN (Below.refl _ _) nq
  go_upto_region 4 with fail
  clear c0 d0 d1 hxn
  generalize w1.drewN nq = w2 at *
  have hcA := hS0.out w2.drew hb.out.drew
  replace hb := Lib.hid hb.out.drew
  go_region_held3 (fun W => W.cell? ⟨b, 0, none⟩ = some (.int .i64 (now : Int)) ∧ W.cell? ⟨w.heap.size, 0, none⟩ = some (.int .i64 (x0 : Int))) (first | (with_reducible exact hcA) | go_keep)
    (first
      | (go_at_call 92; (with_reducible refine (cp.out _).mono ?_); rintro e w6 ⟨rfl, rfl⟩))
  clear hcA cp hS0
  go_upto_region 6 with fail
  generalize w2.drew = w6 at *
  obtain ⟨a1, a2, a3⟩ := hS.out w6 hb.out
  obtain ⟨b1, b2, b3⟩ := hS.out (w6.alloc (.cells #[.int .i64 (x0 : Int), .int .i64 (x1 : Int)] 100)) (hb.out.trans (((Below.refl w6.heap.size w6).alloc (Nat.le_refl _) (.cells #[.int .i64 (x0 : Int), .int .i64 (x1 : Int)] 100)).mono hb.out.size))
  have hb3 := Lib.hid (hb.out.trans ((((Below.refl w6.heap.size w6).alloc (Nat.le_refl _) (.cells #[.int .i64 (x0 : Int), .int .i64 (x1 : Int)] 100)).drew).mono hb.out.size))
  obtain ⟨v8, w8, hrun, T8⟩ := ca.out w6 hb.out
  obtain ⟨a8, cap8, rfl, _, _, _⟩ := T8.row.look
  obtain ⟨y1, y2, y3⟩ := hu.out _ _ _ _ hb3.out T8
  replace y3 := Lib.hid y3
  replace hrun := Lib.hid hrun
  clear T8 hu ca hb3 hS
  generalize l8.length = n8 at *
  go_region_law (refine step_append_at (by rfl) _ _ 98 98 (by rfl) _ _ (by rfl) (by rfl) hrun.out ?_)
  all_goals
    go_wp2_with fail
    refine bodyPost_ret (results_none rfl _ _ _) rfl ?_
    exact ⟨rfl, _, y3.out⟩
theorem Bits.add {F : Nat → Nat} {L : Nat → List ItemN} (h : Bits F L) {i s : Nat} (hi : i < 6) (hs : s < 64) {l : List ItemN} (hl : l ≠ []) : Bits (fun j => if j = i then F i ||| 2 ^ s else F j) (put L (4 + 65 * i + s) l) := fun j hj => by
  obtain ⟨h1, h2⟩ := h j hj
  by_cases e : j = i
  · subst e
    simp only [if_true]
    refine ⟨orBit_lt h1 hs, fun r hr => ?_⟩
    rw [orBit_bit]
    by_cases er : r = s
    · subst er; rw [put_same]; simp [hl]
    · rw [put_other _ _ _ (by omega), h2 r hr]; simp [er]
  · simp only [if_neg e]
    exact ⟨h1, fun r hr => by rw [put_other _ _ _ (by omega)]; exact h2 r hr⟩
theorem place_near' (a b : Nat) (hne : a < b) (hb : (b : Int) ≤ 1099511627776) (h6 : lev a b < 6) (w : World) : Calls Tryz.prog 92 #[.int .i64 a, .int .i64 b] w fun e w' => e = .returned (.tuple #[.int .i64 (lev a b : Nat), .int .i64 (b / 64 ^ (lev a b) % 64 : Nat)]) ∧ Below w.heap.size w w' :=
  (place_near a b hne hb h6 w).mono fun e w' ⟨he, n, hw⟩ => ⟨he, by rw [hw]; exact below_drewN (Below.refl _ _) n⟩
set_option maxHeartbeats 4000000 in
set_option maxRecDepth 100000 in
theorem putIn_near (base : Nat) (w : World) (b now : Nat) (m : Value) (V : Nat → Value) (F : Nat → Nat) (L : Nat → List ItemN) (x : ItemN) (h : Wh base w b now m V F L) (hbt : Bits F L) (hx : now < x.1) (hx2 : (x.1 : Int) ≤ 1099511627776) (h6 : lev now x.1 < 6) (hlen : ∀ c, IsL c → (L c).length ≤ 1000000) :
    Calls Tryz.prog 70 #[.pointer (some ⟨b, 0, none⟩), pairV x] w fun e w' => e = .returned (.tuple #[]) ∧ ∃ V' F', Step base w b V w' now m V' F' (put L (place now x.1) (L (place now x.1) ++ [x])) ∧ Bits F' (put L (place now x.1) (L (place now x.1) ++ [x])) := by
  rw [place_slot hx h6]
  have hs := slot_lt x.1 (lev now x.1)
  have cp := Lib.hid (fun W => place_near' now x.1 hx hx2 h6 W)
  generalize lev now x.1 = i at *
  generalize x.1 / 64 ^ i % 64 = s at *
  have i3 : IsL (4 + 65 * i + s) := .inr (.inr ⟨i, s, h6, hs, rfl⟩)
  have ec : 3 + i * 65 + 1 + s = 4 + 65 * i + s := by omega
  have B1 := Bx.start w x
  have k1 := Lib.hid ((Below.refl w.heap.size w).alloc (Nat.le_refl _) (.cells #[.int .i64 (x.1 : Int), .int .i64 (x.2 : Int)] 100))
  obtain ⟨w1, hw1⟩ : ∃ w1, w.alloc (.cells #[.int .i64 (x.1 : Int), .int .i64 (x.2 : Int)] 100) = w1 := ⟨_, rfl⟩
  rw [hw1] at B1 k1
  have h1 := Lib.hid (h.below k1.out)
  have ca := Lib.hid (fun W (hW : Below w1.heap.size w1 W) => add_any base b (3 + i * 65) s (F i) (V (4 + 65 * i + s)) (L (4 + 65 * i + s)) x W ((h1.out.below hW).full i h6) (hbt i h6).1 (by rw [ec]; exact (h1.out.below hW).slot _ i3) hs ((h1.out.below hW).free _) ((h1.out.below hW).free _) ((h1.out.below hW).row _ i3) (h.nb _ i3) (Nat.le_trans h.low (Nat.le_of_lt (h1.out.below hW).lt)) (hlen _ i3))
  have hb2 : Hid (Bits (fun j => if j = i then F i ||| 2 ^ s else F j) (put L (4 + 65 * i + s) (L (4 + 65 * i + s) ++ [x]))) := hbt.add h6 hs (by simp)
  have hu : Hid (∀ W W2 v8, Below w1.heap.size w1 W → Upd base b W (V (4 + 65 * i + s)) W2 v8 (L (4 + 65 * i + s) ++ [x]) (upd1 (upd1 (vw W b) (3 + i * 65 + 1 + s) v8) (3 + i * 65) (.int .u64 ((F i ||| 2 ^ s : Nat) : Int))) → Step base w b V W2 now m (putV V (4 + 65 * i + s) v8) (fun j => if j = i then F i ||| 2 ^ s else F j) (put L (4 + 65 * i + s) (L (4 + 65 * i + s) ++ [x]))) := fun W W2 v8 hW u => by
    have kk : Below w.heap.size w W := k1.out.trans (hW.mono k1.out.size)
    have hW2 := h.below kk
    refine Step.ahead kk (hW2.upd i3 u ?_ (fun d hd hd2 => ?_) (fun j hj => ?_))
    · rw [upd1_other _ _ (by omega), ec, upd1_same]
    · have : d ≠ 3 + i * 65 := by
        rcases hd2 with e | e | e
        · omega
        · omega
        · exact isL_full e h6
      rw [upd1_other _ _ this, upd1_other _ _ (by omega)]
    · by_cases e : j = i
      · subst e; rw [upd1_same]; simp
      · rw [upd1_other _ _ (by omega), upd1_other _ _ (by omega)]
        simp only [if_neg e]
        exact hW2.full j hj
  have c0 := h1.out.now
  obtain ⟨d0, d1⟩ := B1
  have hS : Hid (∀ W, Below w1.heap.size w1 W → W.cell? ⟨b, 0, none⟩ = some (.int .i64 (now : Int)) ∧ W.cell? ⟨w.heap.size, 0, none⟩ = some (.int .i64 (x.1 : Int)) ∧ W.cell? ⟨w.heap.size, 1, none⟩ = some (.int .i64 (x.2 : Int))) := fun W hW =>
    ⟨(h1.out.below hW).now, (hW.cell (p := ⟨w.heap.size, 0, none⟩) (World.block_lt_of_cell? w1 _ d0)).trans d0, (hW.cell (p := ⟨w.heap.size, 1, none⟩) (World.block_lt_of_cell? w1 _ d1)).trans d1⟩
  have hxn : ¬ (x.1 : Int) ≤ (now : Int) := by omega
  have hi6 : (i : Int) < 6 := by omega
  have hi7 : ((i : Int) == 6) = false := by rw [beq_eq_false_iff_ne]; omega
  generalize put L (4 + 65 * i + s) (L (4 + 65 * i + s) ++ [x]) = L8 at *
  generalize L (4 + 65 * i + s) ++ [x] = l8 at *
  obtain ⟨x0, x1⟩ := x
  unfold pairV at *
  simp only at hw1 d0 d1 cp ca hxn hS
  clear h hlen hx hx2 k1 hbt ec i3
  go_enter Tryz.func70, Tryz.ntmps70
  go_upto_region 1 with fail
  clear hw1
  go_quiet (fail)
  have hb : Hid (Below w1.heap.size w1 (w1.drewN nq)) := below_drewN (Below.refl _ _) nq
  go_upto_region 4 with fail
  clear c0 d0 d1 hxn
  generalize w1.drewN nq = w2 at *
  have hcA := hS.out w2.drew hb.out.drew
  replace hb := Lib.hid hb.out.drew
  go_region_held3 (fun W => W.cell? ⟨b, 0, none⟩ = some (.int .i64 (now : Int)) ∧ W.cell? ⟨w.heap.size, 0, none⟩ = some (.int .i64 (x0 : Int)) ∧ W.cell? ⟨w.heap.size, 1, none⟩ = some (.int .i64 (x1 : Int))) (first | (with_reducible exact hc6) | (with_reducible exact hcA) | go_keep)
    (first
      | (go_at_call 92; (with_reducible refine (cp.out _).mono ?_); rintro e w6 ⟨rfl, k6⟩; replace hb := Lib.hid (hb.out.trans (k6.mono hb.out.size)); have hc6 := hS.out _ hb.out; clear k6))
  clear hcA cp
  obtain ⟨a1, a2, a3⟩ := hc6
  go_upto_region 7 with fail
  have hcB := hS.out w6.drew hb.out.drew
  replace hb := Lib.hid hb.out.drew
  have c7 := Lib.hid (ca.out w6.drew hb.out)
  clear ca
  go_region_with (first
    | (go_at_call 97; (with_reducible refine c7.out.mono ?_); rintro e w8 ⟨rfl, v8, U8⟩; have y3 := Lib.hid (hu.out _ _ _ hb.out U8); clear U8))
  all_goals
    go_end0
    exact ⟨rfl, _, _, y3.out, hb2.out⟩
/-- One goes where its time, and the wheel's, tell. -/
theorem putIn_any (base : Nat) (w : World) (b now : Nat) (m : Value) (V : Nat → Value) (F : Nat → Nat) (L : Nat → List ItemN) (x : ItemN) (h : Wh base w b now m V F L) (hbt : Bits F L) (hx2 : x.1 ≤ 1099511627776) (hup : Up (L 2)) (hlen : ∀ c, IsL c → (L c).length ≤ 1000000) :
    Calls Tryz.prog 70 #[.pointer (some ⟨b, 0, none⟩), pairV x] w fun e w' => e = .returned (.tuple #[]) ∧ ∃ V' F', Step base w b V w' now m V' F' (putInL now x L) ∧ Bits F' (putInL now x L) := by
  unfold putInL
  by_cases h1 : x.1 ≤ now
  · rw [place_due h1, if_pos rfl]
    refine (putIn_due base w b now m V F L x h h1 hup (hlen 2 (.inl rfl))).mono ?_
    rintro e w' ⟨he, V', s⟩
    exact ⟨he, V', F, s, hbt.put_out (.inl rfl) _⟩
  · by_cases h6 : 6 ≤ lev now x.1
    · rw [place_beyond (by omega) h6, if_neg (by omega)]
      refine (putIn_far base w b now m V F L x h (by omega) (by omega) h6 (hlen 393 (.inr (.inl rfl)))).mono ?_
      rintro e w' ⟨he, V', s⟩
      exact ⟨he, V', F, s, hbt.put_out (.inr rfl) _⟩
    · have hne : place now x.1 ≠ 2 := fun e => h1 (place_two.1 e)
      rw [if_neg hne]
      exact putIn_near base w b now m V F L x h hbt (by omega) (by omega) (by omega) hlen
end Go.Proofs.YtoihekgmomjhpaaGreatDoor.W

/-
  Layer 6: the wheel's putInAll, comeRound and goOn: time goes on.
-/
set_option linter.unusedVariables false
namespace Whl
theorem putAllL_snoc (now : Nat) (x : ItemN) : ∀ (r : List ItemN) (L : Nat → List ItemN), putAllL now (r ++ [x]) L = putInL now x (putAllL now r L)
  | [], L => rfl
  | y :: r, L => putAllL_snoc now x r (putInL now y L)
theorem insAll_len : ∀ (r l : List ItemN), (insAll r l).length = l.length + r.length
  | [], l => rfl
  | x :: r, l => by
    show (insAll r (ins x l)).length = _
    rw [insAll_len, ins_len, List.length_cons]; omega
theorem Ok.len {now : Nat} {l : List ItemN} {L : Nat → List ItemN} (h : Ok now l L) (c : Nat) : (L c).length ≤ l.length := by
  by_cases hc : c = 2
  · subst hc; rw [h.due]; exact List.length_filter_le _ _
  · rw [(h.perm c hc).length_eq]; exact List.length_filter_le _ _
theorem Ok.up2 {now : Nat} {l : List ItemN} {L : Nat → List ItemN} (h : Ok now l L) : Up (L 2) := by rw [h.due]; exact h.up.filter _
end Whl
namespace Go.Proofs.YtoihekgmomjhpaaGreatDoor.W
open Go.RowKit Whl
theorem Rw.kp {base : Nat} {w w' : World} {v : Value} {l : List ItemN} {O : Nat → Prop} (h : Rw base w v l) (k : Kp O w w') (ho : ∀ x, v.ownBlock = some x → ¬ O x) : Rw base w' v l := by
  obtain ⟨r1, r2⟩ := h
  refine ⟨r1, ?_⟩
  rcases r2 with r2 | ⟨g, cap, cur, e1, e2, e3, e4⟩
  · exact .inl r2
  · exact .inr ⟨g, cap, cur, e1, e2, (k.block g (Array.getElem?_eq_some_iff.1 e3).1 (ho g (by rw [e1]; rfl))).trans e3, e4⟩
/-- What is said behind some of a list were put in. -/
structure Putting (base : Nat) (w0 wr : World) (b now : Nat) (m : Value) (V0 : Nat → Value) (L0 : Nat → List ItemN) (l0 r : List ItemN) (v : Value) (k : Nat) : Prop where
  st : ∃ V F, Step base w0 b V0 wr now m V F (putAllL now (r.take k) L0) ∧ Bits F (putAllL now (r.take k) L0) ∧ (∀ x, v.ownBlock = some x → ¬ OwnL b V x)
  row : Rw base wr v r
set_option maxHeartbeats 2000000 in
set_option maxRecDepth 100000 in
theorem putInAll_any (base : Nat) (w : World) (b now : Nat) (m : Value) (V : Nat → Value) (F : Nat → Nat) (L : Nat → List ItemN) (l r : List ItemN) (v : Value) (h : Wh base w b now m V F L) (hbt : Bits F L) (ok : Ok now l L)
    (hr : Rw base w v r) (hv : ∀ x, v.ownBlock = some x → ¬ OwnL b V x) (hnd : r.Nodup) (hdj : ∀ p, p ∈ r → p ∉ l) (hmax : ∀ p, p ∈ r → p.1 ≤ 1099511627776) (hlen : l.length + r.length ≤ 100000) :
    Calls Tryz.prog 80 #[.pointer (some ⟨b, 0, none⟩), v] w fun e w' => e = .returned (.tuple #[]) ∧ ∃ V' F', Step base w b V w' now m V' F' (putAllL now r L) ∧ Bits F' (putAllL now r L) := by
  obtain ⟨a, cap, rfl, _, _, ha⟩ := hr.look
  have hn : (r.length : Int) ≤ 100000 := by omega
  have hok : Hid (∀ k, Ok now (insAll (r.take k) l) (putAllL now (r.take k) L)) := fun k => Ok.putAll ok (hnd.sublist (List.take_sublist k r)) fun p hp => hdj p (List.mem_of_mem_take hp)
  have hll : Hid (∀ k, (insAll (r.take k) l).length ≤ 1000000) := fun k => by
    rw [insAll_len, List.length_take]; omega
  have hsn : Hid (∀ k (hk : k < r.length), putAllL now (r.take (k + 1)) L = putInL now r[k] (putAllL now (r.take k) L)) := fun k hk => by
    rw [List.take_succ_eq_append_getElem hk, putAllL_snoc]
  have hmx : Hid (∀ k (hk : k < r.length), r[k].1 ≤ 1099511627776) := fun k hk => hmax _ (List.getElem_mem _)
  have P0 : Hid (Putting base w w b now m V L l r (.slice a r.length cap) 0) := ⟨⟨V, F, ⟨h, Kp.refl _ _, fun k hk => .inl hk⟩, hbt, hv⟩, hr⟩
  have hfin : Hid (putAllL now (r.take r.length) L = putAllL now r L) := by unfold Hid; rw [List.take_length]
  replace ha := Lib.hid ha
  have hvlt : Hid (∀ x, (Value.slice a r.length cap).ownBlock = some x → x < w.heap.size) := fun x hx => (World.ownsRow.lt hr x hx).2
  clear h hbt ok hr hv hnd hdj hmax hlen
  go_enter Tryz.func80, Tryz.ntmps80
  go_wp2_with fail
  go_loopw [8] (fun v8 wr => ∃ k : Nat, v8 = .int .i64 k ∧ (k : Int) ≤ r.length ∧ Hid (Putting base w wr b now m V L l r (.slice a r.length cap) k)) (fun v8 _ => ((r.length : Int) - intOf v8).toNat)
  case atStart => exact ⟨0, rfl, by omega, P0⟩
  case round =>
    obtain ⟨k, rfl, hk, P⟩ := hrel
    clear P0
    by_cases hlt : (k : Int) < r.length
    · obtain ⟨g, rfl⟩ := ha.out k (by omega)
      obtain ⟨c0, c1⟩ := P.out.row.cells k (by omega)
      have hs1 := Lib.hid (hsn.out k (by omega))
      have hm1 := Lib.hid (hmx.out k (by omega))
      generalize hq : r[k] = q at *
      clear hq
      obtain ⟨⟨V1, F1, st, bt, hv1⟩, R1⟩ := P.out
      have kk := (Below.refl wr.heap.size wr).alloc (Nat.le_refl _) (.cells #[.int .i64 (q.1 : Int), .int .i64 (q.2 : Int)] 100)
      have cp := Lib.hid (putIn_any base _ b now m V1 F1 _ q (st.wh.below kk) bt hm1.out (hok.out k).up2 (fun c hc => Nat.le_trans ((hok.out k).len c) (hll.out k)))
      have hR : Hid (∀ w8 V2 F2, Step base (wr.alloc (.cells #[.int .i64 (q.1 : Int), .int .i64 (q.2 : Int)] 100)) b V1 w8 now m V2 F2 (putInL now q (putAllL now (r.take k) L)) → Bits F2 (putInL now q (putAllL now (r.take k) L)) → Putting base w w8 b now m V L l r (.slice (some ⟨g, 0, none⟩) r.length cap) (k + 1)) := fun w8 V2 F2 s2 b2 => by
        have s3 := st.trans (Step.ahead kk s2)
        rw [← hs1.out] at s3 b2
        refine ⟨⟨V2, F2, s3, b2, fun x hx => ?_⟩, R1.kp (Step.ahead kk s2).kp hv1⟩
        intro hO
        rcases (Step.ahead kk s2).own x hO with e | e
        · exact hv1 x hx e
        · have h1 := hvlt.out x hx
          have h2 := st.kp.size
          omega
      clear st bt hv1 R1 kk P hs1 hm1
      obtain ⟨q0, q1⟩ := q
      unfold pairV at cp
      simp only at c0 c1 cp
      go_wp2_with fail
      refine cp.out.mono ?_
      rintro e w8 ⟨rfl, V2, F2, s2, b2⟩
      have P2 := Lib.hid (hR.out w8 V2 F2 s2 b2)
      clear s2 b2 hR cp c0 c1
      go_wp2_with fail
      exact ⟨⟨k + 1, by go_num, by omega, P2⟩, by simp [intOf]; omega⟩
    · have hkn : k = r.length := by omega
      subst hkn
      go_wp2_with fail
      go_end0
      obtain ⟨⟨V1, F1, st, bt, hv1⟩, R1⟩ := P.out
      rw [hfin.out] at st bt
      exact ⟨rfl, V1, F1, st, bt⟩
/-- The wheel's time written anew. -/
theorem Wh.setNow {base : Nat} {w : World} {b now : Nat} {m : Value} {V : Nat → Value} {F : Nat → Nat} {L : Nat → List ItemN} (h : Wh base w b now m V F L) (n : Nat) : Step base w b V (w.setCell ⟨b, 0, none⟩ (.int .i64 (n : Int))) n m V F L := by
  have ho : ∀ k, k ≠ b → (w.setCell ⟨b, 0, none⟩ (.int .i64 (n : Int))).heap[k]? = w.heap[k]? := fun k hk => heap_setCell_other _ _ _ _ hk
  have hc : ∀ d, d ≠ 0 → (w.setCell ⟨b, 0, none⟩ (.int .i64 (n : Int))).cell? ⟨b, d, none⟩ = w.cell? ⟨b, d, none⟩ := fun d hd => World.cell?_setCell_other _ _ _ _ (by intro e; injection e with _ e2; exact hd e2.symm)
  refine ⟨⟨h.low, by simp [World.setCell]; exact h.lt, fun d => by rw [World.frozen?_setCell]; exact h.free d, World.cell?_setCell_same _ _ _ h.now, (hc 1 (by omega)).trans h.times, fun c hc2 => (hc c (by have := isL_big hc2; omega)).trans (h.slot c hc2), fun i hi => (hc _ (by omega)).trans (h.full i hi), fun c hc2 => ?_, h.apart, h.nb⟩, ⟨rfl, rfl, rfl, by simp [World.setCell], fun k _ hk => ho k (fun e => hk (.inl e))⟩, fun k hk => .inl hk⟩
  exact World.ownsRow.kept (h.row c hc2) (row := some b) ⟨rfl, rfl, rfl, by simp [World.setCell], fun k _ hk => ho k (fun e => hk (by rw [e]))⟩ (.inr (h.nb c hc2))
/-- A list taken away whole. -/
theorem Wh.drop {base : Nat} {w : World} {b now : Nat} {m : Value} {V : Nat → Value} {F : Nat → Nat} {L : Nat → List ItemN} (h : Wh base w b now m V F L) {c : Nat} (hc : IsL c) : Step base w b V (w.setCell ⟨b, c, none⟩ (.slice none 0 0)) now m (putV V c (.slice none 0 0)) F (put L c []) := by
  have U0 : Upd base b w (V c) w (.slice none 0 0) [] (vw w b) := ⟨fun _ => rfl, Rw.nil _ _, fun _ h => h, fun _ _ _ _ => rfl, Nat.le_refl _, rfl, rfl, rfl, fun k hk => by simp [Value.ownBlock] at hk, by simp [Value.ownBlock]⟩
  exact h.upd hc (U0.set (by show (w.cell? _).isSome = true; rw [h.slot c hc]; rfl) (.slice none 0 0)) (upd1_same _ _ _) (fun d hd _ => upd1_other _ _ hd) (upd1_full h hc _)
theorem drop_own {V : Nat → Value} {b c : Nat} {base : Nat} {w : World} {now : Nat} {m : Value} {F : Nat → Nat} {L : Nat → List ItemN} (h : Wh base w b now m V F L) (hc : IsL c) : ∀ x, (V c).ownBlock = some x → ¬ OwnL b (putV V c (.slice none 0 0)) x := by
  intro x hx hO
  rcases hO with e | ⟨d, hd, e⟩
  · exact h.nb c hc (by rw [hx, e])
  · by_cases ed : d = c
    · subst ed; rw [putV_same] at e; simp [Value.ownBlock] at e
    · rw [putV_other _ _ ed] at e
      exact h.apart c d hc hd (Ne.symm ed) x hx e
def Empty6 (L : Nat → List ItemN) : Prop := ∀ i s, i < 6 → s < 64 → L (4 + 65 * i + s) = []
/-- The whole of a wheel: what lies in the world, and which pairs it holds. -/
structure WhlS (base : Nat) (w : World) (b now : Nat) (m : Value) (V : Nat → Value) (F : Nat → Nat) (L : Nat → List ItemN) (l : List ItemN) : Prop where
  wh : Wh base w b now m V F L
  bits : Bits F L
  ok : Ok now l L
  max : ∀ p, p ∈ l → p.1 ≤ 1099511627776
  len : l.length ≤ 50000
theorem comeRound_none (base : Nat) (w : World) (b now : Nat) (m : Value) (V : Nat → Value) (F : Nat → Nat) (L : Nat → List ItemN) (l : List ItemN) (h : WhlS base w b now m V F L l) (h0 : L 393 = []) (tt : Nat) :
    Calls Tryz.prog 82 #[.pointer (some ⟨b, 0, none⟩), .int .i64 tt] w fun e w' => e = .returned (.bool false) ∧ Below w.heap.size w w' := by
  have c := h.wh.slot 393 (.inr (.inl rfl))
  obtain ⟨a, cap, hv, _, _, _⟩ := (h.wh.row 393 (.inr (.inl rfl))).look
  rw [h0] at hv
  rw [hv] at c
  simp only [List.length_nil] at c
  clear h hv
  go_enter Tryz.func82, Tryz.ntmps82
  go_wp2_with fail
  go_ret
  exact ⟨rfl, Below.refl _ _⟩
set_option maxHeartbeats 2000000 in
set_option maxRecDepth 100000 in
theorem comeRound_some (base : Nat) (w : World) (b now : Nat) (m : Value) (V : Nat → Value) (F : Nat → Nat) (L : Nat → List ItemN) (l : List ItemN) (h : WhlS base w b now m V F L l) (h6 : Empty6 L) (h0 : L 393 ≠ []) (tt : Nat) (hto : now ≤ tt) (hto2 : (tt : Int) ≤ 1099511627776) :
    Calls Tryz.prog 82 #[.pointer (some ⟨b, 0, none⟩), .int .i64 tt] w fun e w' => (e = .returned (.bool false) ∧ Below w.heap.size w w' ∧ Ok tt l L ∧ ∀ p, p ∈ l → now < p.1 → tt < p.1) ∨
      (e = .returned (.bool true) ∧ ∃ n V' F' L', now < n ∧ n ≤ tt ∧ Step base w b V w' n m V' F' L' ∧ Bits F' L' ∧ Ok n l L') := by
  have i3 : IsL 393 := .inr (.inl rfl)
  have hpos : 0 < (L 393).length := List.length_pos_iff.2 h0
  have c := h.wh.slot 393 i3
  have hlen : (L 393).length ≤ 50000 := Nat.le_trans (h.ok.len 393) h.len
  have cl := Lib.hid (least_any base (V 393) (L 393) w (h.wh.row 393 i3) hpos (by omega))
  have hmem := minTo_mem (L 393) hpos
  have hmin : ∀ p, p ∈ L 393 → (minTo (L 393) (L 393).length).1 ≤ p.1 := fun p hp => minTo_le (L 393) hp
  have hmm := h.max _ (h.ok.mem.1 hmem).1
  have hrd := h.ok.round h6 ⟨_, hmem, rfl⟩
  generalize hM : (minTo (L 393) (L 393).length).1 = M at *
  have e36 : (64 : Nat) ^ 6 = 68719476736 := by decide
  have hfar : Hid (tt < M / 68719476736 * 68719476736 → Ok tt l L ∧ ∀ p, p ∈ l → now < p.1 → tt < p.1) := fun ht => h.ok.far h6 hmin hto (by rw [e36]; exact ht)
  rw [e36] at hrd
  obtain ⟨n, hn⟩ : ∃ n : Nat, (M : Int) / 68719476736 * 68719476736 = (n : Int) := ⟨M / 68719476736 * 68719476736, by omega⟩
  have hn2 : M / 68719476736 * 68719476736 = n := by omega
  rw [hn2] at hrd hfar
  have hM1 : (M : Int) ≤ 1099511627776 := by omega
  have hn1 : (n : Int) ≤ 1099511627776 := by omega
  have hru : Hid (∀ W, Below w.heap.size w W → Step base w b V ((W.setCell ⟨b, 0, none⟩ (.int .i64 (n : Int))).setCell ⟨b, 393, none⟩ (.slice none 0 0)) n m (putV V 393 (.slice none 0 0)) F (put L 393 []) ∧ Calls Tryz.prog 80 #[.pointer (some ⟨b, 0, none⟩), V 393] ((W.setCell ⟨b, 0, none⟩ (.int .i64 (n : Int))).setCell ⟨b, 393, none⟩ (.slice none 0 0)) fun e w' => e = .returned (.tuple #[]) ∧ ∃ V' F', Step base w b V w' n m V' F' (putAllL n (L 393) (put L 393 [])) ∧ Bits F' (putAllL n (L 393) (put L 393 []))) := fun W hW => by
    have hw := h.wh.below hW
    have s1 := hw.setNow n
    have s2 := s1.wh.drop i3
    have s3 : Step base w b V ((W.setCell ⟨b, 0, none⟩ (.int .i64 (n : Int))).setCell ⟨b, 393, none⟩ (.slice none 0 0)) n m (putV V 393 (.slice none 0 0)) F (put L 393 []) := Step.ahead hW (s1.trans s2)
    refine ⟨s3, ?_⟩
    have ok2 := h.ok.cut (c := 393) (Nat.le_of_lt hrd.1) (by omega) (fun p hp hpn hne => absurd (h.ok.beyond h6 hp hpn).1 hne)
    have hrow : Rw base ((W.setCell ⟨b, 0, none⟩ (.int .i64 (n : Int))).setCell ⟨b, 393, none⟩ (.slice none 0 0)) (V 393) (L 393) := by
      have r1 := s1.wh.row 393 i3
      exact World.ownsRow.kept r1 (row := some b) ⟨rfl, rfl, rfl, by simp [World.setCell], fun k _ hk => heap_setCell_other _ _ _ _ (fun e => hk (by rw [e]))⟩ (.inr (h.wh.nb 393 i3))
    refine (putInAll_any base _ b n m _ F _ _ (L 393) (V 393) s3.wh (h.bits.put_out (.inr rfl) []) ok2 hrow (drop_own hw i3) (h.ok.nodup 393) (fun p hp hm => ?_) (fun p hp => h.max p (h.ok.mem.1 hp).1) ?_).mono ?_
    · have h1 := (h.ok.mem.1 hp).2
      have h2 := (List.mem_filter.1 hm).2
      simp_all
    · have h1 := List.length_filter_le (fun p : ItemN => place now p.1 != 393) l
      have h2 := h.len
      omega
    · rintro e w' ⟨he, V', F', s4, b4⟩
      exact ⟨he, V', F', s3.trans s4, b4⟩
  have okN := Lib.hid hrd.2
  have hnn : Hid (now < n) := hrd.1
  obtain ⟨a, cap, hv, _, _, _⟩ := (h.wh.row 393 i3).look
  have f0 := Lib.hid (fun W (hW : Below w.heap.size w W) => (h.wh.below hW).free)
  have fc := Lib.hid (fun W (hW : Below w.heap.size w W) => (h.wh.below hW).now)
  have fs := Lib.hid (fun W (hW : Below w.heap.size w W) => (h.wh.below hW).slot 393 i3)
  have fn := Lib.hid (fun W (hW : Below w.heap.size w W) => ((h.wh.below hW).setNow n).wh)
  have hz : (((L 393).length : Int) == 0) = false := by rw [beq_eq_false_iff_ne]; omega
  rw [hv] at c cl
  clear h h0 hpos hmem hmin hmm hrd hn2 hlen hM
  generalize hl8 : (L 393).length = n8 at *
  clear hl8
  go_enter Tryz.func82, Tryz.ntmps82
  go_wp2_with fail
  refine cl.out.mono ?_
  rintro e w2 ⟨rfl, k⟩
  have hk := Lib.hid k
  clear k cl c
  have c := fs.out w2 hk.out
  have c0 := fc.out w2 hk.out
  have g0 := f0.out w2 hk.out 0
  have c3 := (fn.out w2 hk.out).slot 393 i3
  have g3 := (fn.out w2 hk.out).free 393
  obtain ⟨st, cr⟩ := hru.out w2 hk.out
  replace st := Lib.hid st
  replace cr := Lib.hid cr
  rw [hv] at c c3 cr
  clear hru f0 fc fs fn hto hv
  by_cases hgt : (tt : Int) < n
  · have hf := Lib.hid (hfar.out (by omega))
    clear hfar cr st c3 g3 okN
    go_wp2_with fail
    go_ret
    exact .inl ⟨rfl, hk.out, hf.out⟩
  · clear hfar
    go_wp2_with fail
    refine cr.out.mono ?_
    rintro e w8 ⟨rfl, V8, F8, s8, b8⟩
    go_wp2_with fail
    go_ret
    exact .inr ⟨rfl, n, V8, F8, _, hnn.out, by omega, s8, b8, okN.out⟩
end Go.Proofs.YtoihekgmomjhpaaGreatDoor.W
