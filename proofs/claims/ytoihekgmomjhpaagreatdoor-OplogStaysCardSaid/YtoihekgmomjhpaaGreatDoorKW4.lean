/-
  Texts laid into one (a claim has 60 files at most): WIns.
-/
import Derived.Test.YtoihekgmomjhpaaGreatDoorKW3
import Derived.Lib.AppendZerosOnto
import Derived.Lib.Overlaps
import Derived.Laws.Externs
/-
  Layer 6: slices.Insert of one pair.
-/
set_option linter.unusedVariables false
namespace Go.Proofs.YtoihekgmomjhpaaGreatDoor.W
open Go.RowKit Whl
/-- 'copy' of pairs: all is read before anything is written. -/
theorem copy_two (w : World) (ty : TypeId) (b o dLen dCap : Nat) (a : Addr) (sLen sCap : Nat) (cs : List Value) (hn : cs.length = Nat.min sLen dLen * 2)
    (hsrc : ∀ j v, cs[j]? = some v → w.cell? (a.add j) = some v) (hc : ∀ j, j < cs.length → (w.cell? ⟨b, o + j, none⟩).isSome = true) (hf : ∀ j, j < cs.length → w.frozen? ⟨b, o + j, none⟩ = false) (h1 : ∀ v ∈ cs, v.oneCell' = true) :
    (Builtin.copy_ #[98, 98] ty #[.slice (some ⟨b, o, none⟩) dLen dCap, .slice (some a) sLen sCap]).run Tryz.prog w = .ok (goInt (Nat.min sLen dLen)) (w.setCells b o cs) := by
  have hl := run_loadCells_list (P := Tryz.prog) w a cs hsrc
  have hst := run_storeCells_cells (P := Tryz.prog) b o cs 0 w (by simpa using hc) (by simpa using hf) h1
  obtain ⟨i0, hi0, hz0, hzs, hzb⟩ := info_parts info52
  simp [Builtin.copy_, run_underlying Tryz.underlying98, Builtin.lenOf, Builtin.firstCells, sizeOf, typeInfo, hi0, hzs, ← hn, hl, hst]
/-- 'copy' for the walk, where its run is known. -/
theorem wp_copy_at {P : Program} (w : World) {o : Oper} {a : Act} {K : Act → World → Prop} {Q : Exit → Act → World → Prop} (d s : Operand) (t t' : TypeId)
    (ho : o.op = .call { callee := .builtin .copy, args := #[d, s], argTypes := #[t, t'] }) (v u : Value) (hd : a.eval d = v) (hs : a.eval s = u) {v' : Value} {w' : World}
    (hr : (Builtin.copy_ #[t, t'] o.type #[v, u]).run P w = .ok v' w') (h : K (a.put o.dst v') w') : o.wp P a w K Q := by
  unfold Oper.wp execOp
  simp only [ho, resolve, invoke, builtin, Sem.run_bind, Sem.run_pure, Result.andThen_ok, List.map_toArray, List.map_cons, List.map_nil, hd, hs, hr]
  exact h
theorem wpList_copy_at {P : Program} (w : World) {ops : Array Oper} {rest : List Oper} {o : Oper} {a : Act} {Q : Exit → Act → World → Prop} (hgd : o.guard = none) (d s : Operand) (t t' : TypeId)
    (ho : o.op = .call { callee := .builtin .copy, args := #[d, s], argTypes := #[t, t'] }) (v u : Value) (hd : a.eval d = v) (hs : a.eval s = u) {v' : Value} {w' : World}
    (hr : (Builtin.copy_ #[t, t'] o.type #[v, u]).run P w = .ok v' w') (h : wpList P ops Q rest (a.put o.dst v') w') : wpList P ops Q (o :: rest) a w :=
  wpList_plain hgd fun _ hK => wp_copy_at w d s t t' ho v u hd hs hr (hK _ _ h)
theorem step_copy_at {P : Program} {ops : Array Oper} {o : Oper} {a : Act} {w : World} {K : Act → World → Prop} {Q : Exit → Act → World → Prop} {E : Prop}
    (hg : o.guard = none) (d x : Operand) (dT sT : TypeId) (hop : o.op = Op.call { callee := Callee.builtin Builtin.copy, args := #[d, x], argTypes := #[dT, sT] })
    (v u : Value) (hd : a.eval d = v) (hx : a.eval x = u) {v' : Value} {w' : World} (hr : (Builtin.copy_ #[dT, sT] o.type #[v, u]).run P w = .ok v' w') (hK : K (a.put o.dst v') w') :
    if Region.wanted o (yielded ops a.tmps) = true then Oper.wp P o a w K Q else E := by
  have hw : Region.wanted o (yielded ops a.tmps) = true := by simp [Region.wanted, hg]
  rw [if_pos hw]
  unfold Oper.wp
  simp [execOp, hop, resolve, invoke, builtin, hd, hx, hr, Result.andThen]
  exact hK
theorem pair_news {vb : Nat} {w : World} {p : ItemN} (h : Bk vb w p) : ∀ j u, (flat [p])[j]? = some u → w.cell? ((⟨vb, 0, none⟩ : Addr).add j) = some u := by
  intro j u hu
  obtain ⟨c0, c1, _⟩ := h.cells
  rw [Addr.add_lit]
  match j with
  | 0 => simpa [flat] using c0.trans (by simpa [flat] using hu)
  | 1 => simpa [flat] using c1.trans (by simpa [flat] using hu)
  | j + 2 => simp [flat] at hu
set_option maxRecDepth 100000 in
/-- At the end. -/
theorem insert_end (base : Nat) (v : Value) (l : List ItemN) (p : ItemN) (vb : Nat) (w : World) (hr : Rw base w v l) (hv : Bk vb w p) (hb : base ≤ w.heap.size) (hlen : l.length ≤ 1000000) :
    Calls Tryz.prog 96 #[v, .int .i64 l.length, .slice (some ⟨vb, 0, none⟩) 1 1] w fun e w' => ∃ v', e = .returned v' ∧ Turned base w v w' v' (l ++ [p]) := by
  obtain ⟨i0, hi0, hz0, hzs, hzb⟩ := info_parts info52
  obtain ⟨v', w', hrun, hT⟩ : ∃ v' w', (Builtin.append_ #[98, 98] 98 #[v, .slice (some ⟨vb, 0, none⟩) 1 1]).run Tryz.prog w = .ok v' w' ∧ Turned base w v w' v' (l ++ [p]) := by
    obtain ⟨v', w', h1, h2, h3, h4⟩ := run_append_own_at w base 98 98 100 i0 _ 2 16 Tryz.underlying98 hi0 hz0 hzs hzb rfl (by omega) v l.length (flat l) hr ⟨vb, 0, none⟩ 1 1 (flat [p]) rfl (pair_news hv) (flat_one _) (by unfold maxLen; omega) (by omega) hb
    exact ⟨v', w', h1, by unfold Rw; rw [List.length_append, flat_app]; exact h2, h3, fun k hk => by
      rcases h4.2 with e | e
      · exact .inl (e ▸ hk)
      · rw [e] at hk; injection hk with hk; exact .inr (by omega)⟩
  obtain ⟨a, cap, rfl, hc1, hc2, _⟩ := hr.look
  have hn : (l.length : Int) ≤ 1000000 := by omega
  have hc3 : (l.length : Int) ≤ cap := by omega
  have hc4 : (cap : Int) ≤ 9223372036854775807 := by simp only [maxLen] at hc2; omega
  clear hr hv
  by_cases hcc : cap = l.length
  · subst hcc
    go_enter Tryz.func96, Tryz.ntmps96
    go_wp2_with (at_builtin; refine Lib.wpList_append_run _ rfl _ _ _ _ rfl _ _ rfl rfl _ _ hrun ?_)
    go_ret
    exact ⟨_, rfl, hT⟩
  · go_enter Tryz.func96, Tryz.ntmps96
    go_wp2_with (at_builtin; refine Lib.wpList_append_run _ rfl _ _ _ _ rfl _ _ rfl rfl _ _ hrun ?_)
    go_ret
    exact ⟨_, rfl, hT⟩
theorem ins_cells {cs : List Value} {l : List ItemN} {i : Nat} {p : ItemN} (hi : i ≤ l.length) (h : cs = flat (l.take i) ++ flat [p] ++ flat (l.drop i)) : cs = flat (l.take i ++ p :: l.drop i) := by
  rw [h, show l.take i ++ p :: l.drop i = l.take i ++ [p] ++ l.drop i by simp, flat_app, flat_app]
set_option maxHeartbeats 4000000 in
set_option maxRecDepth 100000 in
/-- In place: there is room. -/
theorem insert_shift (base g cap : Nat) (l : List ItemN) (p : ItemN) (i vb : Nat) (w : World) (hr : Rw base w (.slice (some ⟨g, 0, none⟩) l.length cap) l) (hv : Bk vb w p) (hvb : vb ≠ g) (hi : i < l.length) (hroom : l.length + 1 ≤ cap) (hlen : l.length ≤ 1000000) :
    Calls Tryz.prog 96 #[.slice (some ⟨g, 0, none⟩) l.length cap, .int .i64 i, .slice (some ⟨vb, 0, none⟩) 1 1] w fun e w' => ∃ v', e = .returned v' ∧ Turned base w (.slice (some ⟨g, 0, none⟩) l.length cap) w' v' (l.take i ++ p :: l.drop i) := by
  obtain ⟨cur, h1, h2, h3, h4, h5, h6⟩ := hr.row
  have hov : ∀ lb cb o, (callFunc 132 #[.slice (some ⟨vb, 0, none⟩) 1 1, .slice (some ⟨g, o, none⟩) lb cb]).run Tryz.prog w = .ok (.value (.bool false)) w := fun lb cb o => by
    rw [run_callFunc_extern Tryz.func132 (by kernel_rfl) (by kernel_rfl) (by kernel_rfl) (e := Extern.SlicesOverlaps.overlaps #[98, 98] #[4]) (by kernel_rfl),
      Lib.run_overlaps_apart w 98 4 100 Tryz.underlying98 2 Tryz.sizeOf100 ⟨vb, 0, none⟩ ⟨g, o, none⟩ 1 1 lb cb hvb 100 100 2 (cap * 2) (by unfold Bk at hv; simp [World.shape?, hv]) (by simp [World.shape?, h2, h5]) (by omega) (frozen_of_row w vb 0 _ 100 hv) (frozen_of_row w vb 2 _ 100 hv)]
    rfl
  obtain ⟨news, hnews⟩ : ∃ news, news = flat (l.drop i) := ⟨_, rfl⟩
  have hnl : news.length = (l.length - i) * 2 := by rw [hnews, flat_len, List.length_drop]
  have hcell : ∀ (W : World) (cu : Array Value), W.heap[g]? = some (.cells cu 100 (0, 0)) → cu.size = cap * 2 → ∀ j, j < cap * 2 → (W.cell? ⟨g, j, none⟩).isSome = true ∧ W.frozen? ⟨g, j, none⟩ = false := fun W cu hW hs j hj =>
    ⟨by rw [cell_of_row W g j cu 100 (0, 0) hW, Array.getElem?_eq_getElem (by omega)]; rfl, frozen_of_row W g j cu 100 hW⟩
  obtain ⟨W1, hW1⟩ : ∃ W1, W1 = w.drew.setCells g ((i + 1) * 2) news := ⟨_, rfl⟩
  have g1 : w.drew.grownBy W1 (some g) := by rw [hW1]; exact grown_setCells g _ _ _
  have r1 : W1.heap[g]? = some (.cells (layIn cur.toList ((i + 1) * 2) news).toArray 100 (0, 0)) := by rw [hW1]; exact heap_setCells _ _ _ cur h2 (by omega)
  have r1s : (layIn cur.toList ((i + 1) * 2) news).toArray.size = cap * 2 := by
    rw [List.size_toArray, layIn_len (by simp; omega)]; simp [h5]
  have hv1 : Bk vb W1 p := by
    rw [hW1]
    exact (heap_setCells_other hvb _ _ _).trans hv
  have hcp1 : ∀ ty dc sc, (Builtin.copy_ #[98, 98] ty #[.slice (some ⟨g, (i + 1) * 2, none⟩) (l.length + 1 - (i + 1)) dc, .slice (some ⟨g, i * 2, none⟩) (l.length + 1 - i) sc]).run Tryz.prog w.drew = .ok (goInt (Nat.min (l.length + 1 - i) (l.length + 1 - (i + 1)))) W1 := fun ty dc sc => by
    rw [hW1]
    refine copy_two w.drew ty g ((i + 1) * 2) (l.length + 1 - (i + 1)) dc ⟨g, i * 2, none⟩ (l.length + 1 - i) sc news ?_ (fun j u hu => ?_) (fun j hj => (hcell w.drew cur h2 h5 _ (by omega)).1) (fun j hj => (hcell w.drew cur h2 h5 _ (by omega)).2) (by rw [hnews]; exact flat_one _)
    · show _ = min _ _ * 2
      omega
    · rw [Addr.add_lit]
      show w.cell? _ = _
      rw [cell_of_row w g _ cur 100 (0, 0) h2]
      rw [hnews, flat_drop l i (by omega), List.getElem?_drop, ← h6, List.getElem?_take] at hu
      split at hu
      · simpa using hu
      · cases hu
  have hcp2 : ∀ ty dc, (Builtin.copy_ #[98, 98] ty #[.slice (some ⟨g, i * 2, none⟩) (l.length + 1 - i) dc, .slice (some ⟨vb, 0, none⟩) 1 1]).run Tryz.prog W1 = .ok (goInt (Nat.min 1 (l.length + 1 - i))) (W1.setCells g (i * 2) (flat [p])) := fun ty dc =>
    copy_two W1 ty g (i * 2) (l.length + 1 - i) dc ⟨vb, 0, none⟩ 1 1 (flat [p]) (by show _ = min _ _ * 2; rw [flat_len]; simp only [List.length_cons, List.length_nil]; omega) (pair_news hv1) (fun j hj => (hcell W1 _ r1 r1s _ (by simp [flat_len] at hj; omega)).1) (fun j hj => (hcell W1 _ r1 r1s _ (by simp [flat_len] at hj; omega)).2) (flat_one _)
  have hlI : (l.take i ++ p :: l.drop i).length = l.length + 1 := by simp; omega
  have fin : Hid (Turned base w (.slice (some ⟨g, 0, none⟩) l.length cap) (W1.setCells g (i * 2) (flat [p])) (.slice (some ⟨g, 0, none⟩) (l.length + 1) cap) (l.take i ++ p :: l.drop i)) := by
    refine ⟨?_, drew_grown (g1.trans (grown_setCells g _ _ _)), fun k hk => .inl hk⟩
    rw [← hlI]
    refine Rw.of_row h1 (heap_setCells _ _ _ _ r1 (by rw [flat_len]; simp only [List.length_cons, List.length_nil]; omega)) (by omega) h4 ?_ ?_
    · rw [List.size_toArray, layIn_len (by rw [flat_len]; simp only [List.length_cons, List.length_nil]; rw [List.size_toArray] at r1s; omega), ← r1s, List.size_toArray]
    · refine ins_cells (by omega) ?_
      have ht : flat (l.take i) = cur.toList.take (i * 2) := by
        rw [flat_take l i (by omega), ← h6, List.take_take]; congr 1; omega
      rw [hlI, ht, ← hnews]
      unfold layIn
      have q1 : (flat [p]).length = 2 := flat_len [p]
      have q2 : (cur.toList.take ((i + 1) * 2)).length = (i + 1) * 2 := by rw [List.length_take]; simp; omega
      have x1 : List.take (i * 2) (List.take ((i + 1) * 2) cur.toList ++ news ++ List.drop ((i + 1) * 2 + news.length) cur.toList) = List.take (i * 2) cur.toList := by
        rw [List.append_assoc, List.take_append_of_le_length (by omega), List.take_take]
        congr 1
        omega
      have x2 : List.drop (i * 2 + (flat [p]).length) (List.take ((i + 1) * 2) cur.toList ++ news ++ List.drop ((i + 1) * 2 + news.length) cur.toList) = news ++ List.drop ((i + 1) * 2 + news.length) cur.toList := by
        rw [List.append_assoc, List.drop_left' (by omega)]
      simp only
      rw [x1, x2, ← List.append_assoc, List.take_left' (by simp only [List.length_append, List.length_take, Array.length_toList, q1, hnl]; omega)]
  have hn1 : (l.length : Int) ≤ 1000000 := by omega
  have hi1 : (i : Int) < l.length := by omega
  have hc1 : (l.length : Int) + 1 ≤ cap := by omega
  have hc2 : (cap : Int) ≤ 9223372036854775807 := by simp only [maxLen] at h4; omega
  have hz2 : ¬ ((i : Int) = (l.length : Int)) := by omega
  have hb2 : ¬ (cap = i + 1) := by omega
  have hb4 : ¬ (cap = i) := by omega
  have hin : i ≤ l.length := by omega
  have hb3 : (i : Int) ≤ (l.length : Int) + 1 := by omega
  have hb5 : (0 : Int) ≤ (i : Int) + 1 := by omega
  have hb6 : (i : Int) ≤ (l.length : Int) := by omega
  have hw1 : IntKind.i64.wrap ((i : Int) + 1) = (i : Int) + 1 := by rw [IntKind.wrap_i64]; omega
  have htn : ((i : Int) + 1).toNat = i + 1 := by omega
  clear hr hv h2 g1 r1 r1s hnews hnl hW1 hcell h6 h5 hv1 hlI h1 h3 h4
  generalize l.length = n at *
  go_enter Tryz.func96, Tryz.ntmps96
  go_wp2_with (simp only [hov])
  go_region_law (refine step_copy_at rfl _ _ 98 98 rfl (.slice (some ⟨g, (i + 1) * 2, none⟩) (n + 1 - (i + 1)) (cap - (i + 1))) (.slice (some ⟨g, i * 2, none⟩) (n + 1 - i) (cap - i)) (by simp [Act.eval, Act.put]) (by simp [Act.eval, Act.put]) (hcp1 _ _ _) ?_)
  go_wp2_with (at_builtin; refine wpList_copy_at _ rfl _ _ 98 98 rfl _ _ rfl rfl (hcp2 _ _) ?_)
  go_ret
  exact ⟨_, rfl, fin.out⟩
set_option maxHeartbeats 4000000 in
set_option maxRecDepth 100000 in
/-- A new row: there is no room. -/
theorem insert_grow (base g cap : Nat) (l : List ItemN) (p : ItemN) (i vb : Nat) (w : World) (hr : Rw base w (.slice (some ⟨g, 0, none⟩) l.length cap) l) (hv : Bk vb w p) (hi : i < l.length) (hroom : cap < l.length + 1) (hb : base ≤ w.heap.size) (hlen : l.length ≤ 1000000) :
    Calls Tryz.prog 96 #[.slice (some ⟨g, 0, none⟩) l.length cap, .int .i64 i, .slice (some ⟨vb, 0, none⟩) 1 1] w fun e w' => ∃ v', e = .returned v' ∧ Turned base w (.slice (some ⟨g, 0, none⟩) l.length cap) w' v' (l.take i ++ p :: l.drop i) := by
  obtain ⟨cur, h1, h2, h3, h4, h5, h6⟩ := hr.row
  obtain ⟨i0, hi0, hz0, hzs, hzb⟩ := info_parts info52
  have hcn : cap = l.length := by omega
  subst hcn
  have hgw : g < w.heap.size := (Array.getElem?_eq_some_iff.1 h2).1
  have hvw : vb < w.heap.size := (Array.getElem?_eq_some_iff.1 hv).1
  have hold : (Builtin.firstCells i0.size i (.slice (some ⟨g, 0, none⟩) i l.length)).run Tryz.prog w.drew = .ok (flat (l.take i)).toArray w.drew := by
    rw [hzs]
    exact run_firstCells_some w.drew 2 i ⟨g, 0, none⟩ i l.length (flat (l.take i)) (by rw [flat_len, List.length_take]; omega) (fun j u hu => by
      rw [Addr.add_lit]
      show w.cell? _ = _
      rw [cell_of_row w g _ cur 100 (0, 0) h2]
      rw [flat_take l i (by omega), ← h6, List.take_take, List.getElem?_take] at hu
      split at hu
      · simpa using hu
      · cases hu)
  have hrz := Lib.run_append_grow_zeros w 98 3 98 100 i0 _ .i64 .i64 Tryz.underlying98 Tryz.underlying3 hi0 hz0 (some ⟨g, 0, none⟩) i l.length (flat (l.take i)) hold (l.length + 1 - i) (by omega) (by omega) (by omega) (by omega) (by rw [hzb]; omega) (by rw [hzb]; exact growslice_fits (by omega) (by omega))
  have hik : i + (l.length + 1 - i) = l.length + 1 := by omega
  rw [hik] at hrz
  obtain ⟨G, hG⟩ : ∃ G, G = grownCap w (l.length + 1) l.length 100 := ⟨_, rfl⟩
  have hGn : l.length + 1 ≤ G := by rw [hG]; exact grownCap_ge w _ _ _
  have hGm : G ≤ maxLen := by rw [hG]; exact grownCap_le_maxLen w _ _ _ (by unfold maxLen; omega)
  rw [← hG] at hrz
  obtain ⟨ROW, hROW⟩ : ∃ ROW : Array Value, ROW = (flat (l.take i)).toArray ++ Builtin.zeroCells (Value.agg #[.int .i64 0, .int .i64 0]).cells (l.length + 1 - i) ++ Builtin.zeroCells (Value.agg #[.int .i64 0, .int .i64 0]).cells (G - (l.length + 1)) := ⟨_, rfl⟩
  rw [← hROW] at hrz
  have hfl : (flat (l.take i)).length = i * 2 := by rw [flat_len, List.length_take]; omega
  have hRs : ROW.size = G * 2 := by
    rw [hROW]
    simp only [Array.size_append, size_zeroCells, List.size_toArray, hfl]
    rw [show (Value.agg #[.int .i64 0, .int .i64 0]).cells.size = 2 from rfl]
    omega
  have hRt : ROW.toList.take (i * 2) = flat (l.take i) := by
    rw [hROW, Array.toList_append, Array.toList_append, List.append_assoc]
    exact List.take_left' hfl
  clear hold hROW hG
  obtain ⟨news, hnews⟩ : ∃ news, news = flat (l.drop i) := ⟨_, rfl⟩
  have hnl : news.length = (l.length - i) * 2 := by rw [hnews, flat_len, List.length_drop]
  have q1 : (flat [p]).length = 2 := flat_len [p]
  have hcell : ∀ (W : World) (cu : Array Value), W.heap[w.heap.size]? = some (.cells cu 100 (0, 0)) → cu.size = G * 2 → ∀ j, j < G * 2 → (W.cell? ⟨w.heap.size, j, none⟩).isSome = true ∧ W.frozen? ⟨w.heap.size, j, none⟩ = false := fun W cu hW hs j hj =>
    ⟨by rw [cell_of_row W w.heap.size j cu 100 (0, 0) hW, Array.getElem?_eq_getElem (by omega)]; rfl, frozen_of_row W w.heap.size j cu 100 hW⟩
  have r0 : (w.alloc (.cells ROW 100)).heap[w.heap.size]? = some (.cells ROW 100 (0, 0)) := Go.heap_alloc_new w _
  have hvA : Bk vb (w.alloc (.cells ROW 100)) p := (Go.heap_alloc_old _ _ hvw).trans hv
  obtain ⟨W1, hW1⟩ : ∃ W1, W1 = (w.alloc (.cells ROW 100)).drew.setCells w.heap.size (i * 2) (flat [p]) := ⟨_, rfl⟩
  have r1 : W1.heap[w.heap.size]? = some (.cells (layIn ROW.toList (i * 2) (flat [p])).toArray 100 (0, 0)) := by rw [hW1]; exact heap_setCells _ _ _ ROW r0 (by omega)
  have r1s : (layIn ROW.toList (i * 2) (flat [p])).toArray.size = G * 2 := by
    rw [List.size_toArray, layIn_len (by simp; omega)]; simp [hRs]
  have g1 : W1.heap[g]? = some (.cells cur 100 (0, 0)) := by
    rw [hW1]
    exact (heap_setCells_other (by omega) _ _ _).trans ((Go.heap_alloc_old w (.cells ROW 100) hgw).trans h2)
  have hcpA : ∀ ty dc, (Builtin.copy_ #[98, 98] ty #[.slice (some ⟨w.heap.size, i * 2, none⟩) (l.length + 1 - i) dc, .slice (some ⟨vb, 0, none⟩) 1 1]).run Tryz.prog (w.alloc (.cells ROW 100)).drew = .ok (goInt (Nat.min 1 (l.length + 1 - i))) W1 := fun ty dc => by
    rw [hW1]
    exact copy_two _ ty w.heap.size (i * 2) (l.length + 1 - i) dc ⟨vb, 0, none⟩ 1 1 (flat [p]) (by show _ = min _ _ * 2; omega) (pair_news (w := (w.alloc (.cells ROW 100)).drew) hvA) (fun j hj => (hcell (w.alloc (.cells ROW 100)).drew _ r0 hRs _ (by omega)).1) (fun j hj => (hcell (w.alloc (.cells ROW 100)).drew _ r0 hRs _ (by omega)).2) (flat_one _)
  have hcpB : ∀ ty dc sc, (Builtin.copy_ #[98, 98] ty #[.slice (some ⟨w.heap.size, (i + 1) * 2, none⟩) (l.length + 1 - (i + 1)) dc, .slice (some ⟨g, i * 2, none⟩) (l.length - i) sc]).run Tryz.prog W1.drew = .ok (goInt (Nat.min (l.length - i) (l.length + 1 - (i + 1)))) (W1.drew.setCells w.heap.size ((i + 1) * 2) news) := fun ty dc sc => by
    refine copy_two W1.drew ty w.heap.size ((i + 1) * 2) (l.length + 1 - (i + 1)) dc ⟨g, i * 2, none⟩ (l.length - i) sc news ?_ (fun j u hu => ?_) (fun j hj => (hcell W1.drew _ r1 r1s _ (by omega)).1) (fun j hj => (hcell W1.drew _ r1 r1s _ (by omega)).2) (by rw [hnews]; exact flat_one _)
    · show _ = min _ _ * 2
      omega
    · rw [Addr.add_lit]
      show W1.cell? _ = _
      rw [cell_of_row W1 g _ cur 100 (0, 0) g1]
      rw [hnews, flat_drop l i (by omega), List.getElem?_drop, ← h6, List.getElem?_take] at hu
      split at hu
      · simpa using hu
      · cases hu
  have hlI : (l.take i ++ p :: l.drop i).length = l.length + 1 := by simp; omega
  have fin : Hid (Turned base w (.slice (some ⟨g, 0, none⟩) l.length l.length) (W1.drew.setCells w.heap.size ((i + 1) * 2) news) (.slice (some ⟨w.heap.size, 0, none⟩) (l.length + 1) G) (l.take i ++ p :: l.drop i)) := by
    refine ⟨?_, ⟨?_, ?_, ?_, ?_, fun k hk hne => ?_⟩, fun k hk => .inr ?_⟩
    · rw [← hlI]
      refine Rw.of_row hb (heap_setCells _ _ _ _ r1 (by omega)) (by omega) hGm ?_ ?_
      · rw [List.size_toArray, layIn_len (by rw [List.size_toArray] at r1s; simp only; omega), ← r1s, List.size_toArray]
      · refine ins_cells (by omega) ?_
        rw [hlI, ← hRt, ← hnews]
        unfold layIn
        simp only
        have q2 : (List.take (i * 2) ROW.toList).length = i * 2 := by rw [hRt, hfl]
        have x1 : List.take ((i + 1) * 2) (List.take (i * 2) ROW.toList ++ flat [p] ++ List.drop (i * 2 + (flat [p]).length) ROW.toList) = List.take (i * 2) ROW.toList ++ flat [p] := List.take_left' (by rw [List.length_append, q2, q1]; omega)
        rw [x1, List.take_left' (by simp only [List.length_append, q1, q2, hnl]; omega)]
    · rw [(grown_setCells w.heap.size news _ W1.drew).os, hW1]; exact (grown_setCells w.heap.size _ _ (w.alloc (.cells ROW 100)).drew).os
    · rw [(grown_setCells w.heap.size news _ W1.drew).tape, hW1]; exact (grown_setCells w.heap.size _ _ (w.alloc (.cells ROW 100)).drew).tape
    · rw [(grown_setCells w.heap.size news _ W1.drew).output, hW1]; exact (grown_setCells w.heap.size _ _ (w.alloc (.cells ROW 100)).drew).output
    · refine Nat.le_trans ?_ (grown_setCells w.heap.size news _ W1.drew).size
      rw [hW1]
      refine Nat.le_trans ?_ (grown_setCells w.heap.size _ _ (w.alloc (.cells ROW 100)).drew).size
      show w.heap.size ≤ (w.alloc (.cells ROW 100)).heap.size
      simp
    · rw [heap_setCells_other (by omega)]
      show W1.heap[k]? = _
      rw [hW1, heap_setCells_other (by omega)]
      exact Go.heap_alloc_old w _ hk
    · simp [Value.ownBlock] at hk
      omega
  have hn1 : (l.length : Int) ≤ 1000000 := by omega
  have hi1 : (i : Int) < l.length := by omega
  have hG1 : (l.length : Int) + 1 ≤ G := by omega
  have hG2 : (G : Int) ≤ 9223372036854775807 := by simp only [maxLen] at hGm; omega
  have hz2 : ¬ ((i : Int) = (l.length : Int)) := by omega
  have hGi : ¬ (G = i) := by omega
  have hGi1 : ¬ (G = i + 1) := by omega
  have hli : ¬ (l.length = i) := by omega
  have hin : i ≤ l.length := by omega
  have hb3 : (i : Int) ≤ (l.length : Int) + 1 := by omega
  have hb5 : (0 : Int) ≤ (i : Int) + 1 := by omega
  have hb6 : (i : Int) ≤ (l.length : Int) := by omega
  have hw1 : IntKind.i64.wrap ((i : Int) + 1) = (i : Int) + 1 := by rw [IntKind.wrap_i64]; omega
  have htn : ((i : Int) + 1).toNat = i + 1 := by omega
  have hkk : ((l.length + 1 - i : Nat) : Int) = (l.length : Int) + 1 - (i : Int) := by omega
  rw [hkk] at hrz
  clear hr hv h2 g1 r0 r1 r1s hnews hnl hW1 hcell h6 h5 hvA hlI h1 h3 h4 hkk hik hRs hRt hfl q1 hGm hGn hgw hvw hb hroom
  generalize l.length = n at *
  go_enter Tryz.func96, Tryz.ntmps96
  go_wp2_with (first
    | (at_builtin; refine Lib.wpList_append_run _ rfl _ _ _ _ rfl _ _ rfl rfl _ _ hrz ?_)
    | (at_builtin; refine wpList_copy_at _ rfl _ _ 98 98 rfl _ _ rfl rfl (hcpA _ _) ?_))
  go_region_law (refine step_copy_at rfl _ _ 98 98 rfl (.slice (some ⟨w.heap.size, (i + 1) * 2, none⟩) (n + 1 - (i + 1)) (G - (i + 1))) (.slice (some ⟨g, i * 2, none⟩) (n - i) (n - i)) (by simp [Act.eval, Act.put]) (by simp [Act.eval, Act.put]) (hcpB _ _ _) ?_)
  go_wp2_with fail
  go_ret
  exact ⟨_, rfl, fin.out⟩
/-- One more, at a place. -/
theorem insert_any (base : Nat) (v : Value) (l : List ItemN) (p : ItemN) (i vb : Nat) (w : World) (hr : Rw base w v l) (hv : Bk vb w p) (hvb : v.ownBlock ≠ some vb) (hi : i ≤ l.length) (hb : base ≤ w.heap.size) (hlen : l.length ≤ 1000000) :
    Calls Tryz.prog 96 #[v, .int .i64 i, .slice (some ⟨vb, 0, none⟩) 1 1] w fun e w' => ∃ v', e = .returned v' ∧ Turned base w v w' v' (l.take i ++ p :: l.drop i) := by
  by_cases he : i = l.length
  · subst he
    have := insert_end base v l p vb w hr hv hb hlen
    rw [List.take_length, List.drop_length]
    exact this
  · rcases hr.form with ⟨_, h0⟩ | ⟨g, cap, rfl, hg1, hg2⟩
    · subst h0
      simp at hi he
      omega
    · by_cases hroom : l.length + 1 ≤ cap
      · exact insert_shift base g cap l p i vb w hr hv (fun e => hvb (by rw [e]; rfl)) (by omega) hroom hlen
      · exact insert_grow base g cap l p i vb w hr hv (by omega) (by omega) hb hlen
end Go.Proofs.YtoihekgmomjhpaaGreatDoor.W
