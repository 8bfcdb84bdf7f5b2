/-
  Layer 6: the wheel's putIn: one goes where its time, and the wheel's, tell.
-/
import Derived.Test.YthobffeafddonaaDoorWState
set_option linter.unusedVariables false
namespace Go.Proofs.YthobffeafddonaaDoor
open Go.RowKit Whl

theorem results_none {fn : Func} (h : fn.results = #[]) (tmps : Array Value) (P : Program) (w : World) : (results fn tmps).run P w = .ok (.tuple #[]) w := by
  simp [results, h]
theorem upd1_full {base : Nat} {w : World} {b now : Nat} {m : Value} {V : Nat → Value} {F : Nat → Nat} {L : Nat → List ItemN} (h : Wh base w b now m V F L) {c : Nat} (hc : IsL c) (v : Value) : ∀ i, i < 6 → upd1 (vw w b) c v (3 + i * 65) = some (.int .u64 (F i : Int)) := fun i hi => by
  rw [upd1_other _ _ (Ne.symm (isL_full hc hi))]
  exact h.full i hi
theorem Bits.put_out {F : Nat → Nat} {L : Nat → List ItemN} (h : Bits F L) {c : Nat} (hc : c = 2 ∨ c = 393) (l : List ItemN) : Bits F (put L c l) := fun i hi => ⟨(h i hi).1, fun s hs => by
  rw [put_other _ _ _ (by omega)]
  exact (h i hi).2 s hs⟩

set_option maxHeartbeats 4000000 in
set_option maxRecDepth 100000 in
theorem putIn_due (base : Nat) (w : World) (b now : Nat) (m : Value) (V : Nat → Value) (F : Nat → Nat) (L : Nat → List ItemN) (x : ItemN) (h : Wh base w b now m V F L) (hx : x.1 ≤ now) (hup : Up (L 2)) (hlen : (L 2).length ≤ 1000000) :
    Calls Tryd.prog 25 #[.pointer (some ⟨b, 0, none⟩), pairV x] w fun e w' => e = .returned (.tuple #[]) ∧ ∃ V', Step base w b V w' now m V' F (put L 2 (ins x (L 2))) := by
  have B1 := Bx.start w x
  have k1 := Lib.hid ((Below.refl w.heap.size w).alloc (Nat.le_refl _) (.cells #[.int .i64 (x.1 : Int), .int .i64 (x.2 : Int)] 52))
  obtain ⟨w1, hw1⟩ : ∃ w1, w.alloc (.cells #[.int .i64 (x.1 : Int), .int .i64 (x.2 : Int)] 52) = w1 := ⟨_, rfl⟩
  rw [hw1] at B1 k1
  have h1 := Lib.hid (h.below k1.out)
  have cs := Lib.hid (fun W (hW : Below w1.heap.size w1 W) => search_any base (V 2) (L 2) x W ((h1.out.below hW).row 2 (.inl rfl)) hup hlen)
  have hsp : Hid (ins x (L 2) = (L 2).take ((L 2).countP (ltB · x)) ++ x :: (L 2).drop ((L 2).countP (ltB · x))) := ins_split hup
  have hcl : (L 2).countP (ltB · x) ≤ (L 2).length := List.countP_le_length
  have ci := Lib.hid (fun W vb (hW : Below w1.heap.size w1 W) (hv : Bk vb W x) (hvb : (V 2).ownBlock ≠ some vb) => insert_any base (V 2) (L 2) x ((L 2).countP (ltB · x)) vb W ((h1.out.below hW).row 2 (.inl rfl)) hv hvb hcl (Nat.le_trans h.low (Nat.le_of_lt (h1.out.below hW).lt)) hlen)
  rw [← hsp.out] at ci
  have hX : ((L 2).countP (ltB · x) : Int) ≤ 1000000 := by omega
  clear hsp hcl hup
  generalize (L 2).countP (ltB · x) = X at *
  generalize ins x (L 2) = l2 at *
  have hu : Hid (∀ W1 W2 v8, Below w1.heap.size w1 W1 → Turned base W1 (V 2) W2 v8 l2 → W2.cell? ⟨b, 2, none⟩ = some (V 2) ∧ W2.frozen? ⟨b, 2, none⟩ = false ∧ Step base w b V (W2.setCell ⟨b, 2, none⟩ v8) now m (putV V 2 v8) F (put L 2 l2)) := fun W1 W2 v8 hW T => by
    have kk : Below w.heap.size w W1 := k1.out.trans (hW.mono k1.out.size)
    have u := Upd.store (c := 2) kk T h.lt (h.nb 2 (.inl rfl)) (by rw [h.slot 2 (.inl rfl)]; rfl)
    have e8 : W2.heap[b]? = w.heap[b]? := (T.grown.block b (Nat.lt_of_lt_of_le h.lt kk.size) (fun e => h.nb 2 (.inl rfl) e.symm)).trans (kk.block b h.lt)
    exact ⟨(World.cell?_of_block (w := w) (a := ⟨b, 2, none⟩) e8).trans (h.slot 2 (.inl rfl)), (World.frozen?_of_block (w := w) (a := ⟨b, 2, none⟩) e8).trans (h.free 2), h.upd (.inl rfl) u (upd1_same _ _ _) (fun d hd _ => upd1_other _ _ hd) (upd1_full h (.inl rfl) v8)⟩
  have hv2 : Hid (∀ k, (V 2).ownBlock = some k → k < w1.heap.size) := fun k hk => (World.ownsRow.lt (h1.out.row 2 (.inl rfl)) k hk).2
  have c0 := h1.out.now
  have c2 := h1.out.slot 2 (.inl rfl)
  obtain ⟨d0, d1⟩ := B1
  have hS : Hid (∀ W, Below w1.heap.size w1 W → W.cell? ⟨b, 2, none⟩ = some (V 2) ∧ W.cell? ⟨w.heap.size, 0, none⟩ = some (.int .i64 (x.1 : Int)) ∧ W.cell? ⟨w.heap.size, 1, none⟩ = some (.int .i64 (x.2 : Int))) := fun W hW =>
    ⟨(h1.out.below hW).slot 2 (.inl rfl), (hW.cell (p := ⟨w.heap.size, 0, none⟩) (World.block_lt_of_cell? w1 _ d0)).trans d0, (hW.cell (p := ⟨w.heap.size, 1, none⟩) (World.block_lt_of_cell? w1 _ d1)).trans d1⟩
  have hxn : (x.1 : Int) ≤ (now : Int) := by omega
  obtain ⟨x0, x1⟩ := x
  unfold pairV at *
  simp only at hw1 d0 d1 cs hxn hS
  clear h hlen hx k1
  go_enter Tryd.func25, Tryd.ntmps25
  go_upto_region 1 with fail
  clear hw1
  go_quiet (fail)
  have hb : Hid (Below w1.heap.size w1 (w1.drewN nq)) := below_drewN (Below.refl _ _) nq
  go_upto_region 2 with fail
  clear c0 c2 d0 d1
  generalize w1.drewN nq = w2 at *
  have hcA := hS.out w2.drew hb.out.drew
  replace hb := Lib.hid hb.out.drew
  go_region_held3 (fun W => W.cell? ⟨b, 2, none⟩ = some (V 2) ∧ W.cell? ⟨w.heap.size, 0, none⟩ = some (.int .i64 (x0 : Int)) ∧ W.cell? ⟨w.heap.size, 1, none⟩ = some (.int .i64 (x1 : Int))) (first | (with_reducible exact hc6) | (with_reducible exact hcA) | go_keep)
    (first
      | (go_at_call 34; (with_reducible refine (cs.out _ hb.out).mono ?_); rintro e w6 ⟨⟨bb, rfl⟩, k6⟩; replace hb := Lib.hid (hb.out.trans (k6.mono hb.out.size)); have hc6 := hS.out _ hb.out; clear k6))
  obtain ⟨c2, d0, d1⟩ := hc6
  clear hcA cs
  go_upto_region 3 with fail
  have c3 := Lib.hid (ci.out (w6.alloc (.cells #[.int .i64 (x0 : Int), .int .i64 (x1 : Int)] 52)).drew w6.heap.size (hb.out.trans ((((Below.refl _ _).alloc (Nat.le_refl _) _).drew).mono hb.out.size)) (Go.heap_alloc_new w6 _) (fun e => by have := hv2.out _ e; have := hb.out.size; omega))
  have hb3 := Lib.hid (hb.out.trans ((((Below.refl w6.heap.size w6).alloc (Nat.le_refl _) (.cells #[.int .i64 (x0 : Int), .int .i64 (x1 : Int)] 52)).drew).mono hb.out.size))
  have e2 := (hS.out (w6.alloc (.cells #[.int .i64 (x0 : Int), .int .i64 (x1 : Int)] 52)) (hb.out.trans (((Below.refl w6.heap.size w6).alloc (Nat.le_refl _) (.cells #[.int .i64 (x0 : Int), .int .i64 (x1 : Int)] 52)).mono hb.out.size))).1
  clear ci hv2
  go_region_with (first
    | (go_at_call 36; (with_reducible refine c3.out.mono ?_); rintro e w8 ⟨v8, rfl, T8⟩; obtain ⟨a8, cap8, rfl, _, _, _⟩ := T8.row.look; obtain ⟨y1, y2, y3⟩ := hu.out _ _ _ hb3.out T8; replace y3 := Lib.hid y3; clear T8))
  all_goals
    go_wp2_with fail
    refine bodyPost_ret (results_none rfl _ _ _) rfl ?_
    exact ⟨rfl, _, y3.out⟩

set_option maxHeartbeats 4000000 in
set_option maxRecDepth 100000 in
theorem putIn_far (base : Nat) (w : World) (b now : Nat) (m : Value) (V : Nat → Value) (F : Nat → Nat) (L : Nat → List ItemN) (x : ItemN) (h : Wh base w b now m V F L) (hx : now < x.1) (hx2 : (x.1 : Int) ≤ 1099511627776) (h6 : 6 ≤ lev now x.1) (hlen : (L 393).length ≤ 1000000) :
    Calls Tryd.prog 25 #[.pointer (some ⟨b, 0, none⟩), pairV x] w fun e w' => e = .returned (.tuple #[]) ∧ ∃ V', Step base w b V w' now m V' F (put L 393 (L 393 ++ [x])) := by
  have i3 : IsL 393 := .inr (.inl rfl)
  have B1 := Bx.start w x
  have k1 := Lib.hid ((Below.refl w.heap.size w).alloc (Nat.le_refl _) (.cells #[.int .i64 (x.1 : Int), .int .i64 (x.2 : Int)] 52))
  obtain ⟨w1, hw1⟩ : ∃ w1, w.alloc (.cells #[.int .i64 (x.1 : Int), .int .i64 (x.2 : Int)] 52) = w1 := ⟨_, rfl⟩
  rw [hw1] at B1 k1
  have h1 := Lib.hid (h.below k1.out)
  have cp := Lib.hid (fun W => place_far now x.1 hx hx2 h6 W)
  have ca := Lib.hid (fun W (hW : Below w1.heap.size w1 W) => append_pair base (V 393) (L 393) x W.heap.size (W.alloc (.cells #[.int .i64 (x.1 : Int), .int .i64 (x.2 : Int)] 52)).drew (((h1.out.below hW).row 393 i3).below ((((Below.refl _ _).alloc (Nat.le_refl _) _).drew))) (Go.heap_alloc_new W _) (Nat.le_trans h.low (Nat.le_of_lt (Nat.lt_of_lt_of_le (h1.out.below hW).lt (by show W.heap.size ≤ (W.alloc _).heap.size; simp)))) hlen)
  have hl2 : (L 393 ++ [x]).length = (L 393).length + 1 := by simp
  have hu : Hid (∀ W1 W2 v8 l2, Below w1.heap.size w1 W1 → Turned base W1 (V 393) W2 v8 l2 → W2.cell? ⟨b, 393, none⟩ = some (V 393) ∧ W2.frozen? ⟨b, 393, none⟩ = false ∧ Step base w b V (W2.setCell ⟨b, 393, none⟩ v8) now m (putV V 393 v8) F (put L 393 l2)) := fun W1 W2 v8 l2 hW T => by
    have kk : Below w.heap.size w W1 := k1.out.trans (hW.mono k1.out.size)
    have u := Upd.store (c := 393) kk T h.lt (h.nb 393 i3) (by rw [h.slot 393 i3]; rfl)
    have e8 : W2.heap[b]? = w.heap[b]? := (T.grown.block b (Nat.lt_of_lt_of_le h.lt kk.size) (fun e => h.nb 393 i3 e.symm)).trans (kk.block b h.lt)
    exact ⟨(World.cell?_of_block (w := w) (a := ⟨b, 393, none⟩) e8).trans (h.slot 393 i3), (World.frozen?_of_block (w := w) (a := ⟨b, 393, none⟩) e8).trans (h.free 393), h.upd i3 u (upd1_same _ _ _) (fun d hd _ => upd1_other _ _ hd) (upd1_full h i3 v8)⟩
  have c0 := h1.out.now
  obtain ⟨d0, d1⟩ := B1
  have hS : Hid (∀ W, Below w1.heap.size w1 W → W.cell? ⟨b, 393, none⟩ = some (V 393) ∧ W.cell? ⟨w.heap.size, 0, none⟩ = some (.int .i64 (x.1 : Int)) ∧ W.cell? ⟨w.heap.size, 1, none⟩ = some (.int .i64 (x.2 : Int))) := fun W hW =>
    ⟨(h1.out.below hW).slot 393 i3, (hW.cell (p := ⟨w.heap.size, 0, none⟩) (World.block_lt_of_cell? w1 _ d0)).trans d0, (hW.cell (p := ⟨w.heap.size, 1, none⟩) (World.block_lt_of_cell? w1 _ d1)).trans d1⟩
  have hS0 : Hid (∀ W, Below w1.heap.size w1 W → W.cell? ⟨b, 0, none⟩ = some (.int .i64 (now : Int)) ∧ W.cell? ⟨w.heap.size, 0, none⟩ = some (.int .i64 (x.1 : Int))) := fun W hW =>
    ⟨(h1.out.below hW).now, (hS.out W hW).2.1⟩
  have hxn : ¬ (x.1 : Int) ≤ (now : Int) := by omega
  generalize hl8 : L 393 ++ [x] = l8 at *
  clear hl8 hl2
  obtain ⟨x0, x1⟩ := x
  unfold pairV at *
  simp only at hw1 d0 d1 cp ca hxn hS hS0
  clear h hlen hx hx2 h6 k1
  go_enter Tryd.func25, Tryd.ntmps25
  go_upto_region 1 with fail
  clear hw1
  go_quiet (fail)
  have hb : Hid (Below w1.heap.size w1 (w1.drewN nq)) := below_drewN (Below.refl _ _) nq
  go_upto_region 4 with fail
  clear c0 d0 d1 hxn
  generalize w1.drewN nq = w2 at *
  have hcA := hS0.out w2.drew hb.out.drew
  replace hb := Lib.hid hb.out.drew
  go_region_held3 (fun W => W.cell? ⟨b, 0, none⟩ = some (.int .i64 (now : Int)) ∧ W.cell? ⟨w.heap.size, 0, none⟩ = some (.int .i64 (x0 : Int))) (first | (with_reducible exact hcA) | go_keep)
    (first
      | (go_at_call 32; (with_reducible refine (cp.out _).mono ?_); rintro e w6 ⟨rfl, rfl⟩))
  clear hcA cp hS0
  go_upto_region 6 with fail
  generalize w2.drew = w6 at *
  obtain ⟨a1, a2, a3⟩ := hS.out w6 hb.out
  obtain ⟨b1, b2, b3⟩ := hS.out (w6.alloc (.cells #[.int .i64 (x0 : Int), .int .i64 (x1 : Int)] 52)) (hb.out.trans (((Below.refl w6.heap.size w6).alloc (Nat.le_refl _) (.cells #[.int .i64 (x0 : Int), .int .i64 (x1 : Int)] 52)).mono hb.out.size))
  have hb3 := Lib.hid (hb.out.trans ((((Below.refl w6.heap.size w6).alloc (Nat.le_refl _) (.cells #[.int .i64 (x0 : Int), .int .i64 (x1 : Int)] 52)).drew).mono hb.out.size))
  obtain ⟨v8, w8, hrun, T8⟩ := ca.out w6 hb.out
  obtain ⟨a8, cap8, rfl, _, _, _⟩ := T8.row.look
  obtain ⟨y1, y2, y3⟩ := hu.out _ _ _ _ hb3.out T8
  replace y3 := Lib.hid y3
  replace hrun := Lib.hid hrun
  clear T8 hu ca hb3 hS
  generalize l8.length = n8 at *
  go_region_law (refine step_append_at (by rfl) _ _ 39 39 (by rfl) _ _ (by rfl) (by rfl) hrun.out ?_)
  all_goals
    go_wp2_with fail
    refine bodyPost_ret (results_none rfl _ _ _) rfl ?_
    exact ⟨rfl, _, y3.out⟩

theorem Bits.add {F : Nat → Nat} {L : Nat → List ItemN} (h : Bits F L) {i s : Nat} (hi : i < 6) (hs : s < 64) {l : List ItemN} (hl : l ≠ []) : Bits (fun j => if j = i then F i ||| 2 ^ s else F j) (put L (4 + 65 * i + s) l) := fun j hj => by
  obtain ⟨h1, h2⟩ := h j hj
  by_cases e : j = i
  · subst e
    simp only [if_true]
    refine ⟨orBit_lt h1 hs, fun r hr => ?_⟩
    rw [orBit_bit]
    by_cases er : r = s
    · subst er; rw [put_same]; simp [hl]
    · rw [put_other _ _ _ (by omega), h2 r hr]; simp [er]
  · simp only [if_neg e]
    exact ⟨h1, fun r hr => by rw [put_other _ _ _ (by omega)]; exact h2 r hr⟩

theorem place_near' (a b : Nat) (hne : a < b) (hb : (b : Int) ≤ 1099511627776) (h6 : lev a b < 6) (w : World) : Calls Tryd.prog 32 #[.int .i64 a, .int .i64 b] w fun e w' => e = .returned (.tuple #[.int .i64 (lev a b : Nat), .int .i64 (b / 64 ^ (lev a b) % 64 : Nat)]) ∧ Below w.heap.size w w' :=
  (place_near a b hne hb h6 w).mono fun e w' ⟨he, n, hw⟩ => ⟨he, by rw [hw]; exact below_drewN (Below.refl _ _) n⟩
set_option maxHeartbeats 4000000 in
set_option maxRecDepth 100000 in
theorem putIn_near (base : Nat) (w : World) (b now : Nat) (m : Value) (V : Nat → Value) (F : Nat → Nat) (L : Nat → List ItemN) (x : ItemN) (h : Wh base w b now m V F L) (hbt : Bits F L) (hx : now < x.1) (hx2 : (x.1 : Int) ≤ 1099511627776) (h6 : lev now x.1 < 6) (hlen : ∀ c, IsL c → (L c).length ≤ 1000000) :
    Calls Tryd.prog 25 #[.pointer (some ⟨b, 0, none⟩), pairV x] w fun e w' => e = .returned (.tuple #[]) ∧ ∃ V' F', Step base w b V w' now m V' F' (put L (place now x.1) (L (place now x.1) ++ [x])) ∧ Bits F' (put L (place now x.1) (L (place now x.1) ++ [x])) := by
  rw [place_slot hx h6]
  have hs := slot_lt x.1 (lev now x.1)
  have cp := Lib.hid (fun W => place_near' now x.1 hx hx2 h6 W)
  generalize lev now x.1 = i at *
  generalize x.1 / 64 ^ i % 64 = s at *
  have i3 : IsL (4 + 65 * i + s) := .inr (.inr ⟨i, s, h6, hs, rfl⟩)
  have ec : 3 + i * 65 + 1 + s = 4 + 65 * i + s := by omega
  have B1 := Bx.start w x
  have k1 := Lib.hid ((Below.refl w.heap.size w).alloc (Nat.le_refl _) (.cells #[.int .i64 (x.1 : Int), .int .i64 (x.2 : Int)] 52))
  obtain ⟨w1, hw1⟩ : ∃ w1, w.alloc (.cells #[.int .i64 (x.1 : Int), .int .i64 (x.2 : Int)] 52) = w1 := ⟨_, rfl⟩
  rw [hw1] at B1 k1
  have h1 := Lib.hid (h.below k1.out)
  have ca := Lib.hid (fun W (hW : Below w1.heap.size w1 W) => add_any base b (3 + i * 65) s (F i) (V (4 + 65 * i + s)) (L (4 + 65 * i + s)) x W ((h1.out.below hW).full i h6) (hbt i h6).1 (by rw [ec]; exact (h1.out.below hW).slot _ i3) hs ((h1.out.below hW).free _) ((h1.out.below hW).free _) ((h1.out.below hW).row _ i3) (h.nb _ i3) (Nat.le_trans h.low (Nat.le_of_lt (h1.out.below hW).lt)) (hlen _ i3))
  have hb2 : Hid (Bits (fun j => if j = i then F i ||| 2 ^ s else F j) (put L (4 + 65 * i + s) (L (4 + 65 * i + s) ++ [x]))) := hbt.add h6 hs (by simp)
  have hu : Hid (∀ W W2 v8, Below w1.heap.size w1 W → Upd base b W (V (4 + 65 * i + s)) W2 v8 (L (4 + 65 * i + s) ++ [x]) (upd1 (upd1 (vw W b) (3 + i * 65 + 1 + s) v8) (3 + i * 65) (.int .u64 ((F i ||| 2 ^ s : Nat) : Int))) → Step base w b V W2 now m (putV V (4 + 65 * i + s) v8) (fun j => if j = i then F i ||| 2 ^ s else F j) (put L (4 + 65 * i + s) (L (4 + 65 * i + s) ++ [x]))) := fun W W2 v8 hW u => by
    have kk : Below w.heap.size w W := k1.out.trans (hW.mono k1.out.size)
    have hW2 := h.below kk
    refine Step.ahead kk (hW2.upd i3 u ?_ (fun d hd hd2 => ?_) (fun j hj => ?_))
    · rw [upd1_other _ _ (by omega), ec, upd1_same]
    · have : d ≠ 3 + i * 65 := by
        rcases hd2 with e | e | e
        · omega
        · omega
        · exact isL_full e h6
      rw [upd1_other _ _ this, upd1_other _ _ (by omega)]
    · by_cases e : j = i
      · subst e; rw [upd1_same]; simp
      · rw [upd1_other _ _ (by omega), upd1_other _ _ (by omega)]
        simp only [if_neg e]
        exact hW2.full j hj
  have c0 := h1.out.now
  obtain ⟨d0, d1⟩ := B1
  have hS : Hid (∀ W, Below w1.heap.size w1 W → W.cell? ⟨b, 0, none⟩ = some (.int .i64 (now : Int)) ∧ W.cell? ⟨w.heap.size, 0, none⟩ = some (.int .i64 (x.1 : Int)) ∧ W.cell? ⟨w.heap.size, 1, none⟩ = some (.int .i64 (x.2 : Int))) := fun W hW =>
    ⟨(h1.out.below hW).now, (hW.cell (p := ⟨w.heap.size, 0, none⟩) (World.block_lt_of_cell? w1 _ d0)).trans d0, (hW.cell (p := ⟨w.heap.size, 1, none⟩) (World.block_lt_of_cell? w1 _ d1)).trans d1⟩
  have hxn : ¬ (x.1 : Int) ≤ (now : Int) := by omega
  have hi6 : (i : Int) < 6 := by omega
  have hi7 : ((i : Int) == 6) = false := by rw [beq_eq_false_iff_ne]; omega
  generalize put L (4 + 65 * i + s) (L (4 + 65 * i + s) ++ [x]) = L8 at *
  generalize L (4 + 65 * i + s) ++ [x] = l8 at *
  obtain ⟨x0, x1⟩ := x
  unfold pairV at *
  simp only at hw1 d0 d1 cp ca hxn hS
  clear h hlen hx hx2 k1 hbt ec i3
  go_enter Tryd.func25, Tryd.ntmps25
  go_upto_region 1 with fail
  clear hw1
  go_quiet (fail)
  have hb : Hid (Below w1.heap.size w1 (w1.drewN nq)) := below_drewN (Below.refl _ _) nq
  go_upto_region 4 with fail
  clear c0 d0 d1 hxn
  generalize w1.drewN nq = w2 at *
  have hcA := hS.out w2.drew hb.out.drew
  replace hb := Lib.hid hb.out.drew
  go_region_held3 (fun W => W.cell? ⟨b, 0, none⟩ = some (.int .i64 (now : Int)) ∧ W.cell? ⟨w.heap.size, 0, none⟩ = some (.int .i64 (x0 : Int)) ∧ W.cell? ⟨w.heap.size, 1, none⟩ = some (.int .i64 (x1 : Int))) (first | (with_reducible exact hc6) | (with_reducible exact hcA) | go_keep)
    (first
      | (go_at_call 32; (with_reducible refine (cp.out _).mono ?_); rintro e w6 ⟨rfl, k6⟩; replace hb := Lib.hid (hb.out.trans (k6.mono hb.out.size)); have hc6 := hS.out _ hb.out; clear k6))
  clear hcA cp
  obtain ⟨a1, a2, a3⟩ := hc6
  go_upto_region 7 with fail
  have hcB := hS.out w6.drew hb.out.drew
  replace hb := Lib.hid hb.out.drew
  have c7 := Lib.hid (ca.out w6.drew hb.out)
  clear ca
  go_region_with (first
    | (go_at_call 37; (with_reducible refine c7.out.mono ?_); rintro e w8 ⟨rfl, v8, U8⟩; have y3 := Lib.hid (hu.out _ _ _ hb.out U8); clear U8))
  all_goals
    go_end0
    exact ⟨rfl, _, _, y3.out, hb2.out⟩

/-- One goes where its time, and the wheel's, tell. -/
theorem putIn_any (base : Nat) (w : World) (b now : Nat) (m : Value) (V : Nat → Value) (F : Nat → Nat) (L : Nat → List ItemN) (x : ItemN) (h : Wh base w b now m V F L) (hbt : Bits F L) (hx2 : x.1 ≤ 1099511627776) (hup : Up (L 2)) (hlen : ∀ c, IsL c → (L c).length ≤ 1000000) :
    Calls Tryd.prog 25 #[.pointer (some ⟨b, 0, none⟩), pairV x] w fun e w' => e = .returned (.tuple #[]) ∧ ∃ V' F', Step base w b V w' now m V' F' (putInL now x L) ∧ Bits F' (putInL now x L) := by
  unfold putInL
  by_cases h1 : x.1 ≤ now
  · rw [place_due h1, if_pos rfl]
    refine (putIn_due base w b now m V F L x h h1 hup (hlen 2 (.inl rfl))).mono ?_
    rintro e w' ⟨he, V', s⟩
    exact ⟨he, V', F, s, hbt.put_out (.inl rfl) _⟩
  · by_cases h6 : 6 ≤ lev now x.1
    · rw [place_beyond (by omega) h6, if_neg (by omega)]
      refine (putIn_far base w b now m V F L x h (by omega) (by omega) h6 (hlen 393 (.inr (.inl rfl)))).mono ?_
      rintro e w' ⟨he, V', s⟩
      exact ⟨he, V', F, s, hbt.put_out (.inr rfl) _⟩
    · have hne : place now x.1 ≠ 2 := fun e => h1 (place_two.1 e)
      rw [if_neg hne]
      exact putIn_near base w b now m V F L x h hbt (by omega) (by omega) (by omega) hlen
end Go.Proofs.YthobffeafddonaaDoor
