/-
  Layer 6: the wheel's takeOut: one goes from where its time, and the wheel's, tell that it is.
-/
import Derived.Test.YthobffeafddonaaDoorWPut
set_option linter.unusedVariables false
namespace Go.Proofs.YthobffeafddonaaDoor
open Go.RowKit Whl

theorem Bits.rem {F : Nat → Nat} {L : Nat → List ItemN} (h : Bits F L) {i s : Nat} (hi : i < 6) (hs : s < 64) {x : ItemN} (hx : x ∈ L (4 + 65 * i + s)) : Bits (if (L (4 + 65 * i + s)).erase x = [] then (fun j => if j = i then lessBit (F i) s else F j) else F) (put L (4 + 65 * i + s) ((L (4 + 65 * i + s)).erase x)) := fun j hj => by
  obtain ⟨h1, h2⟩ := h j hj
  have hne : L (4 + 65 * i + s) ≠ [] := List.ne_nil_of_mem hx
  by_cases he : (L (4 + 65 * i + s)).erase x = []
  · rw [if_pos he]
    by_cases e : j = i
    · subst e
      simp only [if_true]
      refine ⟨lessBit_lt h1, fun r hr => ?_⟩
      rw [lessBit_bit h1 hs]
      by_cases er : r = s
      · subst er; rw [put_same]; simp [he]
      · rw [put_other _ _ _ (by omega), h2 r hr]; simp [er]
    · simp only [if_neg e]
      exact ⟨h1, fun r hr => by rw [put_other _ _ _ (by omega)]; exact h2 r hr⟩
  · rw [if_neg he]
    refine ⟨h1, fun r hr => ?_⟩
    by_cases e : 4 + 65 * j + r = 4 + 65 * i + s
    · rw [h2 r hr, e, put_same]; simp [he, hne]
    · rw [put_other _ _ _ e]; exact h2 r hr

set_option maxHeartbeats 4000000 in
set_option maxRecDepth 100000 in
theorem takeOut_due (base : Nat) (w : World) (b now : Nat) (m : Value) (V : Nat → Value) (F : Nat → Nat) (L : Nat → List ItemN) (x : ItemN) (h : Wh base w b now m V F L) (hx : x.1 ≤ now) (hp : x ∈ L 2) (hlen : (L 2).length ≤ 1000000) :
    Calls Tryd.prog 24 #[.pointer (some ⟨b, 0, none⟩), pairV x] w fun e w' => e = .returned (.tuple #[]) ∧ ∃ V', Step base w b V w' now m V' F (put L 2 ((L 2).erase x)) := by
  have B1 := Bx.start w x
  have k1 := Lib.hid ((Below.refl w.heap.size w).alloc (Nat.le_refl _) (.cells #[.int .i64 (x.1 : Int), .int .i64 (x.2 : Int)] 52))
  obtain ⟨w1, hw1⟩ : ∃ w1, w.alloc (.cells #[.int .i64 (x.1 : Int), .int .i64 (x.2 : Int)] 52) = w1 := ⟨_, rfl⟩
  rw [hw1] at B1 k1
  have h1 := Lib.hid (h.below k1.out)
  have cw := Lib.hid (fun W (hW : Below w1.heap.size w1 W) => without_any base (V 2) (L 2) x W ((h1.out.below hW).row 2 (.inl rfl)) hp hlen)
  generalize (L 2).erase x = l2 at *
  have hu : Hid (∀ W1 W2 v8, Below w1.heap.size w1 W1 → Turned base W1 (V 2) W2 v8 l2 → W2.cell? ⟨b, 2, none⟩ = some (V 2) ∧ W2.frozen? ⟨b, 2, none⟩ = false ∧ Step base w b V (W2.setCell ⟨b, 2, none⟩ v8) now m (putV V 2 v8) F (put L 2 l2)) := fun W1 W2 v8 hW T => by
    have kk : Below w.heap.size w W1 := k1.out.trans (hW.mono k1.out.size)
    have u := Upd.store (c := 2) kk T h.lt (h.nb 2 (.inl rfl)) (by rw [h.slot 2 (.inl rfl)]; rfl)
    have e8 : W2.heap[b]? = w.heap[b]? := (T.grown.block b (Nat.lt_of_lt_of_le h.lt kk.size) (fun e => h.nb 2 (.inl rfl) e.symm)).trans (kk.block b h.lt)
    exact ⟨(World.cell?_of_block (w := w) (a := ⟨b, 2, none⟩) e8).trans (h.slot 2 (.inl rfl)), (World.frozen?_of_block (w := w) (a := ⟨b, 2, none⟩) e8).trans (h.free 2), h.upd (.inl rfl) u (upd1_same _ _ _) (fun d hd _ => upd1_other _ _ hd) (upd1_full h (.inl rfl) v8)⟩
  have c0 := h1.out.now
  obtain ⟨d0, d1⟩ := B1
  have hS : Hid (∀ W, Below w1.heap.size w1 W → W.cell? ⟨b, 2, none⟩ = some (V 2) ∧ W.cell? ⟨w.heap.size, 0, none⟩ = some (.int .i64 (x.1 : Int)) ∧ W.cell? ⟨w.heap.size, 1, none⟩ = some (.int .i64 (x.2 : Int))) := fun W hW =>
    ⟨(h1.out.below hW).slot 2 (.inl rfl), (hW.cell (p := ⟨w.heap.size, 0, none⟩) (World.block_lt_of_cell? w1 _ d0)).trans d0, (hW.cell (p := ⟨w.heap.size, 1, none⟩) (World.block_lt_of_cell? w1 _ d1)).trans d1⟩
  have hxn : (x.1 : Int) ≤ (now : Int) := by omega
  obtain ⟨x0, x1⟩ := x
  unfold pairV at *
  simp only at hw1 d0 d1 cw hxn hS
  clear h hlen hx k1 hp
  go_enter Tryd.func24, Tryd.ntmps24
  go_upto_region 1 with fail
  clear hw1
  go_quiet (fail)
  have hb : Hid (Below w1.heap.size w1 (w1.drewN nq)) := below_drewN (Below.refl _ _) nq
  go_upto_region 2 with fail
  clear c0 d0 d1 hxn
  generalize w1.drewN nq = w2 at *
  obtain ⟨a2, a0, a1⟩ := hS.out w2 hb.out
  have hb3 := Lib.hid hb.out.drew
  have c3 := Lib.hid (cw.out w2.drew hb3.out)
  clear cw hS
  go_region_with (first
    | (go_at_call 31; (with_reducible refine c3.out.mono ?_); rintro e w8 ⟨v8, rfl, T8⟩; obtain ⟨a8, cap8, rfl, _, _, _⟩ := T8.row.look; obtain ⟨y1, y2, y3⟩ := hu.out _ _ _ hb3.out T8; replace y3 := Lib.hid y3; clear T8))
  all_goals
    go_wp2_with fail
    refine bodyPost_ret (results_none rfl _ _ _) rfl ?_
    exact ⟨rfl, _, y3.out⟩

set_option maxHeartbeats 4000000 in
set_option maxRecDepth 100000 in
theorem takeOut_far (base : Nat) (w : World) (b now : Nat) (m : Value) (V : Nat → Value) (F : Nat → Nat) (L : Nat → List ItemN) (x : ItemN) (h : Wh base w b now m V F L) (hx : now < x.1) (hx2 : (x.1 : Int) ≤ 1099511627776) (h6 : 6 ≤ lev now x.1) (hp : x ∈ L 393) (hlen : (L 393).length ≤ 1000000) :
    Calls Tryd.prog 24 #[.pointer (some ⟨b, 0, none⟩), pairV x] w fun e w' => e = .returned (.tuple #[]) ∧ ∃ V', Step base w b V w' now m V' F (put L 393 ((L 393).erase x)) := by
  have i3 : IsL 393 := .inr (.inl rfl)
  have B1 := Bx.start w x
  have cp := Lib.hid (fun W => place_far now x.1 hx hx2 h6 W)
  have k1 := Lib.hid ((Below.refl w.heap.size w).alloc (Nat.le_refl _) (.cells #[.int .i64 (x.1 : Int), .int .i64 (x.2 : Int)] 52))
  obtain ⟨w1, hw1⟩ : ∃ w1, w.alloc (.cells #[.int .i64 (x.1 : Int), .int .i64 (x.2 : Int)] 52) = w1 := ⟨_, rfl⟩
  rw [hw1] at B1 k1
  have h1 := Lib.hid (h.below k1.out)
  have cw := Lib.hid (fun W (hW : Below w1.heap.size w1 W) => without_any base (V 393) (L 393) x W ((h1.out.below hW).row 393 i3) hp hlen)
  generalize (L 393).erase x = l2 at *
  have hu : Hid (∀ W1 W2 v8, Below w1.heap.size w1 W1 → Turned base W1 (V 393) W2 v8 l2 → W2.cell? ⟨b, 393, none⟩ = some (V 393) ∧ W2.frozen? ⟨b, 393, none⟩ = false ∧ Step base w b V (W2.setCell ⟨b, 393, none⟩ v8) now m (putV V 393 v8) F (put L 393 l2)) := fun W1 W2 v8 hW T => by
    have kk : Below w.heap.size w W1 := k1.out.trans (hW.mono k1.out.size)
    have u := Upd.store (c := 393) kk T h.lt (h.nb 393 i3) (by rw [h.slot 393 i3]; rfl)
    have e8 : W2.heap[b]? = w.heap[b]? := (T.grown.block b (Nat.lt_of_lt_of_le h.lt kk.size) (fun e => h.nb 393 i3 e.symm)).trans (kk.block b h.lt)
    exact ⟨(World.cell?_of_block (w := w) (a := ⟨b, 393, none⟩) e8).trans (h.slot 393 i3), (World.frozen?_of_block (w := w) (a := ⟨b, 393, none⟩) e8).trans (h.free 393), h.upd i3 u (upd1_same _ _ _) (fun d hd _ => upd1_other _ _ hd) (upd1_full h i3 v8)⟩
  have c0 := h1.out.now
  obtain ⟨d0, d1⟩ := B1
  have hS : Hid (∀ W, Below w1.heap.size w1 W → W.cell? ⟨b, 393, none⟩ = some (V 393) ∧ W.cell? ⟨w.heap.size, 0, none⟩ = some (.int .i64 (x.1 : Int)) ∧ W.cell? ⟨w.heap.size, 1, none⟩ = some (.int .i64 (x.2 : Int))) := fun W hW =>
    ⟨(h1.out.below hW).slot 393 i3, (hW.cell (p := ⟨w.heap.size, 0, none⟩) (World.block_lt_of_cell? w1 _ d0)).trans d0, (hW.cell (p := ⟨w.heap.size, 1, none⟩) (World.block_lt_of_cell? w1 _ d1)).trans d1⟩
  have hS0 : Hid (∀ W, Below w1.heap.size w1 W → W.cell? ⟨b, 0, none⟩ = some (.int .i64 (now : Int)) ∧ W.cell? ⟨w.heap.size, 0, none⟩ = some (.int .i64 (x.1 : Int))) := fun W hW =>
    ⟨(h1.out.below hW).now, (hS.out W hW).2.1⟩
  have hxn : ¬ (x.1 : Int) ≤ (now : Int) := by omega
  obtain ⟨x0, x1⟩ := x
  unfold pairV at *
  simp only at hw1 d0 d1 cw cp hxn hS hS0
  clear h hlen hx hx2 h6 k1 hp
  go_enter Tryd.func24, Tryd.ntmps24
  go_upto_region 1 with fail
  clear hw1
  go_quiet (fail)
  have hb : Hid (Below w1.heap.size w1 (w1.drewN nq)) := below_drewN (Below.refl _ _) nq
  go_upto_region 3 with fail
  clear c0 d0 d1 hxn
  generalize w1.drewN nq = w2 at *
  have hcA := hS0.out w2.drew hb.out.drew
  replace hb := Lib.hid hb.out.drew
  go_region_held3 (fun W => W.cell? ⟨b, 0, none⟩ = some (.int .i64 (now : Int)) ∧ W.cell? ⟨w.heap.size, 0, none⟩ = some (.int .i64 (x0 : Int))) (first | (with_reducible exact hcA) | go_keep)
    (first
      | (go_at_call 32; (with_reducible refine (cp.out _).mono ?_); rintro e w6 ⟨rfl, rfl⟩))
  clear hcA cp hS0
  go_upto_region 5 with fail
  generalize w2.drew = w2 at *
  obtain ⟨a2, a0, a1⟩ := hS.out w2 hb.out
  have hb3 := Lib.hid hb.out.drew
  have c3 := Lib.hid (cw.out w2.drew hb3.out)
  clear cw hS
  go_region_with (first
    | (go_at_call 31; (with_reducible refine c3.out.mono ?_); rintro e w8 ⟨v8, rfl, T8⟩; obtain ⟨a8, cap8, rfl, _, _, _⟩ := T8.row.look; obtain ⟨y1, y2, y3⟩ := hu.out _ _ _ hb3.out T8; replace y3 := Lib.hid y3; clear T8))
  all_goals
    go_wp2_with fail
    refine bodyPost_ret (results_none rfl _ _ _) rfl ?_
    exact ⟨rfl, _, y3.out⟩

set_option maxHeartbeats 4000000 in
set_option maxRecDepth 100000 in
theorem takeOut_near (base : Nat) (w : World) (b now : Nat) (m : Value) (V : Nat → Value) (F : Nat → Nat) (L : Nat → List ItemN) (x : ItemN) (h : Wh base w b now m V F L) (hbt : Bits F L) (hx : now < x.1) (hx2 : (x.1 : Int) ≤ 1099511627776) (h6 : lev now x.1 < 6) (hlen : ∀ c, IsL c → (L c).length ≤ 1000000) (hp : x ∈ L (place now x.1)) :
    Calls Tryd.prog 24 #[.pointer (some ⟨b, 0, none⟩), pairV x] w fun e w' => e = .returned (.tuple #[]) ∧ ∃ V' F', Step base w b V w' now m V' F' (put L (place now x.1) ((L (place now x.1)).erase x)) ∧ Bits F' (put L (place now x.1) ((L (place now x.1)).erase x)) := by
  rw [place_slot hx h6] at hp ⊢
  have hs := slot_lt x.1 (lev now x.1)
  have cp := Lib.hid (fun W => place_near' now x.1 hx hx2 h6 W)
  generalize lev now x.1 = i at *
  generalize x.1 / 64 ^ i % 64 = s at *
  have i3 : IsL (4 + 65 * i + s) := .inr (.inr ⟨i, s, h6, hs, rfl⟩)
  have ec : 3 + i * 65 + 1 + s = 4 + 65 * i + s := by omega
  have B1 := Bx.start w x
  have k1 := Lib.hid ((Below.refl w.heap.size w).alloc (Nat.le_refl _) (.cells #[.int .i64 (x.1 : Int), .int .i64 (x.2 : Int)] 52))
  obtain ⟨w1, hw1⟩ : ∃ w1, w.alloc (.cells #[.int .i64 (x.1 : Int), .int .i64 (x.2 : Int)] 52) = w1 := ⟨_, rfl⟩
  rw [hw1] at B1 k1
  have h1 := Lib.hid (h.below k1.out)
  have ca := Lib.hid (fun W (hW : Below w1.heap.size w1 W) => remove_any base b (3 + i * 65) s (F i) (V (4 + 65 * i + s)) (L (4 + 65 * i + s)) x W ((h1.out.below hW).full i h6) (hbt i h6).1 (by rw [ec]; exact (h1.out.below hW).slot _ i3) hs ((h1.out.below hW).free _) ((h1.out.below hW).free _) ((h1.out.below hW).row _ i3) (h.nb _ i3) (Nat.le_trans h.low (Nat.le_of_lt (h1.out.below hW).lt)) (hlen _ i3) hp)
  obtain ⟨F2, hF2⟩ : ∃ F2 : Nat → Nat, F2 = (if (L (4 + 65 * i + s)).erase x = [] then (fun j => if j = i then lessBit (F i) s else F j) else F) := ⟨_, rfl⟩
  have hb2 : Hid (Bits F2 (put L (4 + 65 * i + s) ((L (4 + 65 * i + s)).erase x))) := by
    unfold Hid
    rw [hF2]
    exact hbt.rem h6 hs hp
  have hu : Hid (∀ W W2 v8, Below w1.heap.size w1 W → Upd base b W (V (4 + 65 * i + s)) W2 v8 ((L (4 + 65 * i + s)).erase x) (remF (vw W b) (3 + i * 65 + 1 + s) (3 + i * 65) (.int .u64 ((lessBit (F i) s : Nat) : Int)) ((L (4 + 65 * i + s)).erase x) v8) → Step base w b V W2 now m (putV V (4 + 65 * i + s) v8) F2 (put L (4 + 65 * i + s) ((L (4 + 65 * i + s)).erase x))) := fun W W2 v8 hW u => by
    have kk : Below w.heap.size w W := k1.out.trans (hW.mono k1.out.size)
    have hW2 := h.below kk
    have hne : ∀ d, (d = 0 ∨ d = 1 ∨ IsL d) → d ≠ 3 + i * 65 := fun d hd2 => by
      rcases hd2 with e | e | e
      · omega
      · omega
      · exact isL_full e h6
    by_cases he : (L (4 + 65 * i + s)).erase x = []
    · rw [remF, if_pos he] at u
      rw [hF2, if_pos he]
      refine Step.ahead kk (hW2.upd i3 u ?_ (fun d hd hd2 => ?_) (fun j hj => ?_))
      · rw [upd1_other _ _ (by omega), ec, upd1_same]
      · rw [upd1_other _ _ (hne d hd2), upd1_other _ _ (by omega)]
      · by_cases e : j = i
        · subst e; rw [upd1_same]; simp
        · rw [upd1_other _ _ (by omega), upd1_other _ _ (by omega)]
          simp only [if_neg e]
          exact hW2.full j hj
    · rw [remF, if_neg he] at u
      rw [hF2, if_neg he]
      refine Step.ahead kk (hW2.upd i3 u ?_ (fun d hd hd2 => ?_) (fun j hj => ?_))
      · rw [ec, upd1_same]
      · rw [upd1_other _ _ (by omega)]
      · rw [upd1_other _ _ (by omega)]
        exact hW2.full j hj
  have c0 := h1.out.now
  obtain ⟨d0, d1⟩ := B1
  have hS : Hid (∀ W, Below w1.heap.size w1 W → W.cell? ⟨b, 0, none⟩ = some (.int .i64 (now : Int)) ∧ W.cell? ⟨w.heap.size, 0, none⟩ = some (.int .i64 (x.1 : Int)) ∧ W.cell? ⟨w.heap.size, 1, none⟩ = some (.int .i64 (x.2 : Int))) := fun W hW =>
    ⟨(h1.out.below hW).now, (hW.cell (p := ⟨w.heap.size, 0, none⟩) (World.block_lt_of_cell? w1 _ d0)).trans d0, (hW.cell (p := ⟨w.heap.size, 1, none⟩) (World.block_lt_of_cell? w1 _ d1)).trans d1⟩
  have hxn : ¬ (x.1 : Int) ≤ (now : Int) := by omega
  have hi6 : (i : Int) < 6 := by omega
  have hi7 : ((i : Int) == 6) = false := by rw [beq_eq_false_iff_ne]; omega
  clear hF2
  generalize put L (4 + 65 * i + s) ((L (4 + 65 * i + s)).erase x) = L8 at *
  generalize (L (4 + 65 * i + s)).erase x = l8 at *
  obtain ⟨x0, x1⟩ := x
  unfold pairV at *
  simp only at hw1 d0 d1 cp ca hxn hS
  clear h hlen hx hx2 k1 hbt ec i3 hp
  go_enter Tryd.func24, Tryd.ntmps24
  go_upto_region 1 with fail
  clear hw1
  go_quiet (fail)
  have hb : Hid (Below w1.heap.size w1 (w1.drewN nq)) := below_drewN (Below.refl _ _) nq
  go_upto_region 3 with fail
  clear c0 d0 d1 hxn
  generalize w1.drewN nq = w2 at *
  have hcA := hS.out w2.drew hb.out.drew
  replace hb := Lib.hid hb.out.drew
  go_region_held3 (fun W => W.cell? ⟨b, 0, none⟩ = some (.int .i64 (now : Int)) ∧ W.cell? ⟨w.heap.size, 0, none⟩ = some (.int .i64 (x0 : Int)) ∧ W.cell? ⟨w.heap.size, 1, none⟩ = some (.int .i64 (x1 : Int))) (first | (with_reducible exact hc6) | (with_reducible exact hcA) | go_keep)
    (first
      | (go_at_call 32; (with_reducible refine (cp.out _).mono ?_); rintro e w6 ⟨rfl, k6⟩; replace hb := Lib.hid (hb.out.trans (k6.mono hb.out.size)); have hc6 := hS.out _ hb.out; clear k6))
  clear hcA cp
  obtain ⟨a1, a2, a3⟩ := hc6
  go_upto_region 6 with fail
  have hcB := hS.out w6.drew hb.out.drew
  replace hb := Lib.hid hb.out.drew
  have c7 := Lib.hid (ca.out w6.drew hb.out)
  clear ca
  go_region_with (first
    | (go_at_call 33; (with_reducible refine c7.out.mono ?_); rintro e w8 ⟨rfl, v8, U8⟩; have y3 := Lib.hid (hu.out _ _ _ hb.out U8); clear U8))
  all_goals
    go_end0
    exact ⟨rfl, _, _, y3.out, hb2.out⟩

/-- One goes from where its time, and the wheel's, tell that it is. -/
theorem takeOut_any (base : Nat) (w : World) (b now : Nat) (m : Value) (V : Nat → Value) (F : Nat → Nat) (L : Nat → List ItemN) (x : ItemN) (h : Wh base w b now m V F L) (hbt : Bits F L) (hx2 : x.1 ≤ 1099511627776) (hp : x ∈ L (place now x.1)) (hlen : ∀ c, IsL c → (L c).length ≤ 1000000) :
    Calls Tryd.prog 24 #[.pointer (some ⟨b, 0, none⟩), pairV x] w fun e w' => e = .returned (.tuple #[]) ∧ ∃ V' F', Step base w b V w' now m V' F' (takeOutL now x L) ∧ Bits F' (takeOutL now x L) := by
  unfold takeOutL
  by_cases h1 : x.1 ≤ now
  · rw [place_due h1] at hp ⊢
    refine (takeOut_due base w b now m V F L x h h1 hp (hlen 2 (.inl rfl))).mono ?_
    rintro e w' ⟨he, V', s⟩
    exact ⟨he, V', F, s, hbt.put_out (.inl rfl) _⟩
  · by_cases h6 : 6 ≤ lev now x.1
    · rw [place_beyond (by omega) h6] at hp ⊢
      refine (takeOut_far base w b now m V F L x h (by omega) (by omega) h6 hp (hlen 393 (.inr (.inl rfl)))).mono ?_
      rintro e w' ⟨he, V', s⟩
      exact ⟨he, V', F, s, hbt.put_out (.inr rfl) _⟩
    · exact takeOut_near base w b now m V F L x h hbt (by omega) (by omega) (by omega) hlen hp
end Go.Proofs.YthobffeafddonaaDoor
