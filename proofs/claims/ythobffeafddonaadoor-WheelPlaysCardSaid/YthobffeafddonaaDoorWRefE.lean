/-
  Layer 6: the document's own Set.
-/
import Derived.Test.YthobffeafddonaaDoorWRefD
set_option linter.unusedVariables false
namespace Go.Proofs.YthobffeafddonaaDoor
open Go.RowKit Whl
set_option maxRecDepth 100000

theorem wpList_append_ati {P : Program} {ops : Array Oper} {rest : List Oper} {o : Oper} {a : Act} {w : World} {Q : Exit → Act → World → Prop} (hgd : o.guard = none) (d x : Operand) (dT sT : TypeId)
    (ho : o.op = .call { callee := .builtin .append, args := #[d, x], argTypes := #[dT, sT] }) (v u : Value) (hd : a.eval d = v) (hx : a.eval x = u) {v' : Value} {w' : World}
    (hr : (Builtin.append_ #[dT, sT] o.type #[v, u]).run P w = .ok v' w') (h : wpList P ops Q rest (a.put o.dst v') w') : wpList P ops Q (o :: rest) a w := by
  refine wpList_plain hgd fun K hK => ?_
  unfold Oper.wp execOp
  simp only [ho, resolve, invoke, builtin, Sem.run_bind, Sem.run_pure, Result.andThen_ok, List.map_toArray, List.map_cons, List.map_nil, hd, hx, hr]
  exact hK _ _ h

theorem refSet_arg (r : Nat) (id a : Int) (w : World) (h : id < 0 ∨ 1048576 < id ∨ a < 0 ∨ 1099511627776 < a) :
    Calls Tryd.prog 12 #[.pointer (some ⟨r, 0, none⟩), .int .i64 id, .int .i64 a] w fun e w' => e = .returned (.int .i64 1) ∧ w = w' := by
  by_cases h1 : id < 0
  · clear h
    go_enter Tryd.func12, Tryd.ntmps12
    go_wp2_with fail
    go_ret
    exact ⟨rfl, rfl⟩
  · by_cases h2 : 1048576 < id
    · clear h
      go_enter Tryd.func12, Tryd.ntmps12
      go_wp2_with fail
      go_ret
      exact ⟨rfl, rfl⟩
    · by_cases h3 : a < 0
      · clear h
        go_enter Tryd.func12, Tryd.ntmps12
        go_wp2_with fail
        go_ret
        exact ⟨rfl, rfl⟩
      · have h4 : 1099511627776 < a := by omega
        clear h
        go_enter Tryd.func12, Tryd.ntmps12
        go_wp2_with fail
        go_ret
        exact ⟨rfl, rfl⟩

theorem refSet_full (base : Nat) (w : World) (r T : Nat) (l : List ItemN) (p : Option Addr) (cap id a : Nat) (t : Rv base w r T l p cap) (hn : ∀ q ∈ l, q.2 ≠ id) (hid : id ≤ 1048576) (ha : a ≤ 1099511627776) (hl : 1000 ≤ l.length) :
    Calls Tryd.prog 12 #[.pointer (some ⟨r, 0, none⟩), .int .i64 id, .int .i64 a] w fun e w' => e = .returned (.int .i64 5) ∧ w = w' := by
  have hf := Lib.hid (find_any base w r T l p cap id t l.length (Nat.le_refl _) (fun i hi e => hn (l[i]'hi) (List.getElem_mem hi) (by omega)) (fun h => by omega) (-1) (by simp))
  have c1 := t.c1
  have h1 : ¬ (1048576 : Int) < id := by omega
  have h2 : ¬ (1099511627776 : Int) < a := by omega
  have h3 : (1000 : Int) ≤ (l.length : Int) := by omega
  clear hn t hl hid ha
  generalize l.length = n at *
  go_enter Tryd.func12, Tryd.ntmps12
  go_wp2_with fail
  refine hf.out.mono ?_
  rintro e w' ⟨rfl, rfl⟩
  go_wp2_with fail
  go_ret
  exact ⟨rfl, rfl⟩

/-- Behind the removal: the place is sought, and one is put in there. -/
theorem Whl_place {l : List ItemN} (hup : Up l) {x : ItemN} {k : Nat} (hk : k ≤ l.length) (h1 : ∀ j (hj : j < l.length), j < k → ltB l[j] x = true) (h2 : ∀ h : k < l.length, ltB l[k] x = false) : ins x l = l.take k ++ x :: l.drop k := by
  have : l.countP (ltB · x) = k := by
    have e : l.countP (ltB · x) = (l.take k).countP (ltB · x) + (l.drop k).countP (ltB · x) := by rw [← List.countP_append, List.take_append_drop]
    have e1 : (l.take k).countP (ltB · x) = (l.take k).length := by
      rw [List.countP_eq_length]
      intro p hp
      obtain ⟨i, hi, rfl⟩ := List.mem_iff_getElem.1 hp
      rw [List.length_take] at hi
      rw [List.getElem_take]
      exact h1 i (by omega) (by omega)
    have e2 : (l.drop k).countP (ltB · x) = 0 := by
      rw [List.countP_eq_zero]
      intro p hp
      obtain ⟨i, hi, rfl⟩ := List.mem_iff_getElem.1 hp
      rw [List.length_drop] at hi
      rw [List.getElem_drop]
      by_cases e : i = 0
      · subst e
        simp only [Nat.add_zero]
        rw [h2 (by omega)]; simp
      · have g := List.pairwise_iff_getElem.1 hup k (k + i) (by omega) (by omega) (by omega)
        have g2 := h2 (by omega)
        intro e3
        rw [ltB_iff] at g e3
        rw [ltB_false] at g2
        omega
    rw [e, e1, e2, List.length_take]; omega
  rw [ins_split hup, this]

/-- A row that is cut to its length grows in a new block. -/
theorem grow_cut (w : World) (g k : Nat) (olds news : List Value) (A : Addr) (m c : Nat) (hlo : olds.length = k * 2) (holds : ∀ j u, olds[j]? = some u → w.cell? ((⟨g, 0, none⟩ : Addr).add j) = some u) (hl : news.length = m * 2) (hnews : ∀ j u, news[j]? = some u → w.cell? (A.add j) = some u) (hm : 0 < m) (hk : k ≤ 1000) (hm2 : m ≤ 1000) :
    ∃ v' w', (Builtin.append_ #[34, 34] 34 #[.slice (some ⟨g, 0, none⟩) k k, .slice (some A) m c]).run Tryd.prog w = .ok v' w' ∧ w'.ownsRow w.heap.size 45 2 v' (k + m) (olds ++ news) ∧ Below w.heap.size w w' := by
  obtain ⟨i0, hi0, hz0, hzs, hzb⟩ := info_parts info45
  have hr := run_append_grow (P := Tryd.prog) w 34 34 45 i0 _ Tryd.underlying34 hi0 hz0 ⟨g, 0, none⟩ k k olds (by rw [hzs]; exact hlo) holds A m c news (by rw [hzs]; exact hl) hnews (by omega) (by omega) (by rw [hzb]; exact growslice_fits (by omega) (by omega))
  have hge := grownCap_ge w (k + m) k 45
  have hcm : grownCap w (k + m) k 45 ≤ maxLen := grownCap_le_maxLen w (k + m) k 45 (by unfold maxLen; omega)
  have hzc : (Value.agg #[.int .i64 0, .int .i64 0]).cells.size = 2 := rfl
  have hlen : (olds ++ news).length = (k + m) * 2 := by rw [List.length_append, hlo, hl]; omega
  refine ⟨_, _, hr, ⟨hlen, .inr ⟨w.heap.size, _, _, rfl, Nat.le_refl _, heap_alloc_new w.drew _, hge, hcm, ?_, ?_⟩⟩, ((Below.refl _ _).drew).alloc (Nat.le_refl _) _⟩
  · simp only [Array.size_append, List.size_toArray, size_zeroCells, hzc, hlo, hl]
    omega
  · simp only [Array.toList_append, List.append_assoc]
    rw [← List.append_assoc, ← hlen]
    exact List.take_left

/-- All that Set makes behind the removal, where the list has a row: the rest, the front with the new one, both together, and the block written anew. -/
theorem set_made (base : Nat) (w : World) (r T : Nat) (l : List ItemN) (g cap a id k : Nat) (t : Rv base w r T l (some ⟨g, 0, none⟩) cap) (hk : k ≤ l.length) (hl : l.length < 1000) :
    ∃ (A : Addr) (g3 c3 : Nat) (w3 : World) (v5 : Value) (w5 : World) (p6 : Option Addr) (c6 : Nat) (w6 : World), (if cap = k then some (⟨g, 0, none⟩ : Addr) else some ⟨g, k * 2, none⟩) = some A ∧
      Hid ((Builtin.append_ #[34, 34] 34 #[.slice (some ⟨w.heap.size, 0, none⟩) 0 0, .slice (some A) (l.length - k) (cap - k)]).run Tryd.prog (w.alloc (.cells #[] 45)) = .ok (.slice (some ⟨g3, 0, none⟩) (l.length - k) c3) w3) ∧
      Hid ((Builtin.append_ #[34, 34] 34 #[.slice (some ⟨g, 0, none⟩) k k, .slice (some ⟨w3.heap.size, 0, none⟩) 1 1]).run Tryd.prog (w3.alloc (.cells #[.int .i64 (id : Int), .int .i64 (a : Int)] 45)) = .ok v5 w5) ∧
      Hid ((Builtin.append_ #[34, 34] 34 #[v5, .slice (some ⟨g3, 0, none⟩) (l.length - k) c3]).run Tryd.prog w5 = .ok (.slice p6 (l.length + 1) c6) w6) ∧
      (w3.cell? ⟨r, 1, none⟩ = some (.slice (some ⟨g, 0, none⟩) l.length cap)) ∧ (w6.cell? ⟨r, 1, none⟩ = some (.slice (some ⟨g, 0, none⟩) l.length cap)) ∧ w6.frozen? ⟨r, 1, none⟩ = false ∧
      Hid (Rv base (w6.setCell ⟨r, 1, none⟩ (.slice p6 (l.length + 1) c6)) r T (l.take k ++ (a, id) :: l.drop k) p6 c6) ∧ Hid (Kp (fun k => k = r) w (w6.setCell ⟨r, 1, none⟩ (.slice p6 (l.length + 1) c6))) ∧ Hid (Fresh w.heap.size p6) := by
  obtain ⟨i0, hi0, hz0, hzs, hzb⟩ := info_parts info45
  have hgl := (t.own.lt g rfl).2
  have hrl := t.lt
  obtain ⟨A, hA, hsrc⟩ := t.cut k hk
  have z2 : Below w.heap.size w (w.alloc (.cells #[] 45)) := (Below.refl _ _).alloc (Nat.le_refl _) _
  have o2 : (w.alloc (.cells #[] 45)).ownsRow w.heap.size 45 2 (.slice (some ⟨w.heap.size, 0, none⟩) 0 0) 0 [] := World.ownsRow_made w #[] 0 (Nat.le_refl _) (by unfold maxLen; omega) rfl
  obtain ⟨v3, w3, r3, o3, g3', hv3⟩ := run_append_own (P := Tryd.prog) _ w.heap.size 34 34 45 i0 _ 2 16 Tryd.underlying34 hi0 hz0 hzs hzb rfl (by omega) _ 0 [] o2 A (l.length - k) (cap - k) (fi (l.drop k)) (by rw [fi_len, List.length_drop]) (hsrc _ (z2.block g hgl)) (flat_one _) (by unfold maxLen; omega) (by omega) z2.size
  rw [Nat.zero_add, List.nil_append] at o3
  have b3 : Below w.heap.size w w3 := z2.grown g3' z2.size (fun k hk => by simp [Value.ownBlock] at hk; omega)
  obtain ⟨c3, g3, rfl⟩ : ∃ c3 g3, v3 = .slice (some ⟨g3, 0, none⟩) (l.length - k) c3 := by
    rcases o3.2 with ⟨e, _⟩ | ⟨g3, c3, cur, e, _⟩
    · exact absurd (hv3.1 e).1 (by simp)
    · exact ⟨c3, g3, e⟩
  have hg3 := (o3.lt g3 rfl).2
  have z4 : Below w3.heap.size w3 (w3.alloc (.cells #[.int .i64 (id : Int), .int .i64 (a : Int)] 45)) := (Below.refl _ _).alloc (Nat.le_refl _) _
  have hgl3 : g < w3.heap.size := Nat.lt_of_lt_of_le hgl b3.size
  have hnew : ∀ j u, (fi [(a, id)])[j]? = some u → (w3.alloc (.cells #[.int .i64 (id : Int), .int .i64 (a : Int)] 45)).cell? ((⟨w3.heap.size, 0, none⟩ : Addr).add j) = some u := fun j u hu => by
    have e : fi [(a, id)] = [.int .i64 (id : Int), .int .i64 (a : Int)] := rfl
    rw [e] at hu
    rw [Addr.add_lit]
    match j, hu with
    | 0, hu => simp at hu; subst hu; simp
    | 1, hu => simp at hu; subst hu; simp
  obtain ⟨v5, w5, r5, o5, b5⟩ := grow_cut (w3.alloc (.cells #[.int .i64 (id : Int), .int .i64 (a : Int)] 45)) g k (fi (l.take k)) (fi [(a, id)]) ⟨w3.heap.size, 0, none⟩ 1 1 (by rw [fi_len, List.length_take]; omega) (t.front k hk _ ((z4.block g hgl3).trans (b3.block g hgl))) rfl hnew (by omega) (by omega) (by omega)
  have hg5 : w5.heap[g3]? = w3.heap[g3]? := (b5.block g3 (Nat.lt_of_lt_of_le hg3 z4.size)).trans (z4.block g3 hg3)
  obtain ⟨v6, w6, r6, o6, g6, -⟩ := run_append_own (P := Tryd.prog) w5 _ 34 34 45 i0 _ 2 16 Tryd.underlying34 hi0 hz0 hzs hzb rfl (by omega) v5 _ _ o5 ⟨g3, 0, none⟩ (l.length - k) c3 (fi (l.drop k)) (by rw [fi_len, List.length_drop]) (fun j u hu => (World.cell?_of_block (w := w3) (a := (⟨g3, 0, none⟩ : Addr).add j) (by rw [Addr.add_lit]; exact hg5)).trans (o3.cells (g := g3) rfl j u hu)) (flat_one _) (by unfold maxLen; omega) (by omega) b5.size
  have b6 : Below w.heap.size w w6 := by
    have h1 : Below w.heap.size w w5 := (b3.trans (z4.mono b3.size)).trans (b5.mono (Nat.le_trans b3.size z4.size))
    exact h1.grown g6 h1.size (fun k hk => by have := (o5.lt k hk).1; have := b3.size; have := z4.size; omega)
  rw [show k + 1 + (l.length - k) = l.length + 1 by omega] at o6
  obtain ⟨p6, c6, rfl⟩ := own_slicei o6
  rw [← fi_app, ← fi_app] at o6
  have hll : l.length + 1 = (l.take k ++ [(a, id)] ++ l.drop k).length := by simp; omega
  have frs : Fresh w.heap.size p6 := fun g hg => by have := fresh_of o6 g hg; have := b3.size; have := z4.size; omega
  have fin := Rv.set (T := T) ((b6.block r hrl).trans t.blk) (own_basei o6 (by have := t.hb; have := b3.size; have := z4.size; omega)) hll (by rw [← hll]; omega) t.hb
  rw [List.append_assoc] at fin
  exact ⟨A, g3, c3, w3, v5, w5, p6, c6, w6, hA, r3, r5, r6, (World.cell?_of_block (w := w) (b3.block r hrl)).trans t.c1, (World.cell?_of_block (w := w) (b6.block r hrl)).trans t.c1, (World.frozen?_of_block (w := w) (b6.block r hrl)).trans (t.fz 1), fin,
    ⟨b6.os, b6.tape, b6.output, by simp [World.setCell]; exact b6.size, fun i hi hn => (Below.heap_setCell _ _ _ _ hn).trans (b6.block i hi)⟩, frs⟩

/-- The same where there is no row yet. -/
theorem set_made0 (base : Nat) (w : World) (r T a id : Nat) (t : Rv base w r T [] none 0) :
    ∃ (v5 : Value) (w5 : World) (p6 : Option Addr) (c6 : Nat) (w6 : World),
      Hid ((Builtin.append_ #[34, 34] 34 #[.slice (some ⟨w.heap.size, 0, none⟩) 0 0, .slice none 0 0]).run Tryd.prog (w.alloc (.cells #[] 45)) = .ok (.slice (some ⟨w.heap.size, 0, none⟩) 0 0) (w.alloc (.cells #[] 45))) ∧
      Hid ((Builtin.append_ #[34, 34] 34 #[.slice none 0 0, .slice (some ⟨w.heap.size + 1, 0, none⟩) 1 1]).run Tryd.prog ((w.alloc (.cells #[] 45)).alloc (.cells #[.int .i64 (id : Int), .int .i64 (a : Int)] 45)) = .ok v5 w5) ∧
      Hid ((Builtin.append_ #[34, 34] 34 #[v5, .slice (some ⟨w.heap.size, 0, none⟩) 0 0]).run Tryd.prog w5 = .ok (.slice p6 1 c6) w6) ∧
      ((w.alloc (.cells #[] 45)).cell? ⟨r, 1, none⟩ = some (.slice none 0 0)) ∧ (w6.cell? ⟨r, 1, none⟩ = some (.slice none 0 0)) ∧ w6.frozen? ⟨r, 1, none⟩ = false ∧
      Hid (Rv base (w6.setCell ⟨r, 1, none⟩ (.slice p6 1 c6)) r T [(a, id)] p6 c6) ∧ Hid (Kp (fun k => k = r) w (w6.setCell ⟨r, 1, none⟩ (.slice p6 1 c6))) ∧ Hid (Fresh w.heap.size p6) := by
  obtain ⟨i0, hi0, hz0, hzs, hzb⟩ := info_parts info45
  have hrl := t.lt
  have z2 : Below w.heap.size w (w.alloc (.cells #[] 45)) := (Below.refl _ _).alloc (Nat.le_refl _) _
  have o2 : (w.alloc (.cells #[] 45)).ownsRow w.heap.size 45 2 (.slice (some ⟨w.heap.size, 0, none⟩) 0 0) 0 [] := World.ownsRow_made w #[] 0 (Nat.le_refl _) (by unfold maxLen; omega) rfl
  have r3 := run_append_owned_none (P := Tryd.prog) (w.alloc (.cells #[] 45)) w.heap.size 34 34 45 i0 2 Tryd.underlying34 hi0 _ 0 [] o2
  have hsz : (w.alloc (.cells #[] 45)).heap.size = w.heap.size + 1 := by simp
  generalize hw3 : w.alloc (.cells #[] 45) = w3 at *
  have z4 : Below w3.heap.size w3 (w3.alloc (.cells #[.int .i64 (id : Int), .int .i64 (a : Int)] 45)) := (Below.refl _ _).alloc (Nat.le_refl _) _
  have hnew : ∀ j u, (fi [(a, id)])[j]? = some u → (w3.alloc (.cells #[.int .i64 (id : Int), .int .i64 (a : Int)] 45)).cell? ((⟨w3.heap.size, 0, none⟩ : Addr).add j) = some u := fun j u hu => by
    have e : fi [(a, id)] = [.int .i64 (id : Int), .int .i64 (a : Int)] := rfl
    rw [e] at hu
    rw [Addr.add_lit]
    match j, hu with
    | 0, hu => simp at hu; subst hu; simp
    | 1, hu => simp at hu; subst hu; simp
  obtain ⟨v5, w5, r5, o5, g5, -⟩ := run_append_own (P := Tryd.prog) (w3.alloc (.cells #[.int .i64 (id : Int), .int .i64 (a : Int)] 45)) (w3.alloc (.cells #[.int .i64 (id : Int), .int .i64 (a : Int)] 45)).heap.size 34 34 45 i0 _ 2 16 Tryd.underlying34 hi0 hz0 hzs hzb rfl (by omega) (.slice none 0 0) 0 [] (World.ownsRow_nil _ _ _ _) ⟨w3.heap.size, 0, none⟩ 1 1 (fi [(a, id)]) rfl hnew (flat_one _) (by unfold maxLen; omega) (by omega) (Nat.le_refl _)
  rw [Nat.zero_add, List.nil_append] at o5
  rw [hsz] at r5
  have b5 : Below w.heap.size w w5 := (z2.trans (z4.mono z2.size)).grown g5 (Nat.le_trans z2.size z4.size) (fun k hk => by simp [Value.ownBlock] at hk)
  obtain ⟨v7, w7, r7, o7, g7, -⟩ := run_append_own (P := Tryd.prog) w5 (w3.alloc (.cells #[.int .i64 (id : Int), .int .i64 (a : Int)] 45)).heap.size 34 34 45 i0 _ 2 16 Tryd.underlying34 hi0 hz0 hzs hzb rfl (by omega) _ _ _ o5 ⟨w.heap.size, 0, none⟩ 0 0 [] rfl (fun j u hu => by simp at hu) (fun u hu => by simp at hu) (by unfold maxLen; omega) (by omega) g5.size
  rw [Nat.add_zero, List.append_nil] at o7
  obtain ⟨p6, c6, rfl⟩ := own_slicei o7
  have b6 : Below w.heap.size w w7 := b5.grown g7 b5.size (fun k hk => by have := (o5.lt k hk).1; have := z2.size; have := z4.size; omega)
  have frs : Fresh w.heap.size p6 := fun g hg => by have := fresh_of o7 g hg; have := z2.size; have := z4.size; omega
  have fin := Rv.set (T := T) (l := [(a, id)]) ((b6.block r hrl).trans t.blk) (own_basei o7 (by have := t.hb; have := z2.size; have := z4.size; omega)) rfl (by simp) t.hb
  refine ⟨v5, w5, p6, c6, w7, r3, r5, r7, ?_, (World.cell?_of_block (w := w) (b6.block r hrl)).trans t.c1, (World.frozen?_of_block (w := w) (b6.block r hrl)).trans (t.fz 1), fin,
    ⟨b6.os, b6.tape, b6.output, by simp [World.setCell]; exact b6.size, fun i hi hn => (Below.heap_setCell _ _ _ _ hn).trans (b6.block i hi)⟩, frs⟩
  exact (World.cell?_of_block (w := w) (z2.block r hrl)).trans t.c1

set_option maxHeartbeats 4000000 in
/-- Set, where there is room: one that was there has been taken away. -/
theorem refSet_ok (base : Nat) (w : World) (r T : Nat) (l l0 : List ItemN) (p : Option Addr) (cap id a : Nat) (z : Int) (t : Rv base w r T l p cap) (hid : id ≤ 1048576) (ha : a ≤ 1099511627776) (hz : (z < 0 ∧ l.length < 1000) ∨ 0 ≤ z)
    (hf : Calls Tryd.prog 26 #[.pointer (some ⟨r, 0, none⟩), .int .i64 id] w fun e w' => e = .returned (.int .i64 z) ∧ w = w')
    (hrem : Calls Tryd.prog 14 #[.pointer (some ⟨r, 0, none⟩), .int .i64 id] w fun e w' => ∃ q, e = .returned (.bool q) ∧ (∃ p' cap', Rv base w' r T l0 p' cap') ∧ Kp (fun k => k = r) w w') (hup : Up l0) (hl0 : l0.length < 1000) :
    Calls Tryd.prog 12 #[.pointer (some ⟨r, 0, none⟩), .int .i64 id, .int .i64 a] w fun e w' => e = .returned (.int .i64 0) ∧ (∃ p' cap', Rv base w' r T (ins (a, id) l0) p' cap' ∧ Fresh w.heap.size p') ∧ Kp (fun k => k = r) w w' := by
  have hf0 := Lib.hid hf
  have hr0 := Lib.hid hrem
  have hup0 := Lib.hid hup
  have c1 := t.c1
  have h1 : ¬ (1048576 : Int) < id := by omega
  have h2 : ¬ (1099511627776 : Int) < a := by omega
  have hg : decide (z < 0) = false ∨ (decide (z < 0) = true ∧ ¬ (1000 : Int) ≤ (l.length : Int)) := by
    rcases hz with ⟨h, h'⟩ | h
    · exact Or.inr ⟨by simpa using h, by omega⟩
    · exact Or.inl (by simp; omega)
  clear hf hrem hup t hid ha hz
  generalize l.length = n at *
  have key : ∀ (w1 : World) (p1 : Option Addr) (cap1 : Nat), Rv base w1 r T l0 p1 cap1 → Kp (fun k => k = r) w w1 → True := fun _ _ _ _ _ => trivial
  rcases hg with hg | ⟨hg, hg2⟩
  all_goals
    go_enter Tryd.func12, Tryd.ntmps12
    go_wp2_with fail
    refine hf0.out.mono ?_
    rintro e w' ⟨rfl, rfl⟩
    go_wp2_with fail
    refine hr0.out.mono ?_
    rintro e w1 ⟨q, rfl, ⟨p1, cap1, t1⟩, kp1⟩
    replace kp1 := Lib.hid kp1
    replace t1 := Lib.hid t1
    clear hf0 hr0 c1 key
    have hbld : ∀ W, (Instr.build 45 #[(0, .int .i64 (id : Int)), (1, .int .i64 (a : Int))]).run Tryd.prog W = .ok (.agg #[.int .i64 (id : Int), .int .i64 (a : Int)]) W := fun W => by kernel_rfl
    go_wp2_with fail
    go_loopw [7] (fun i wr => ∃ k : Nat, k ≤ l0.length ∧ i = .int .i64 k ∧ Hid (∀ j (hj : j < l0.length), j < k → ltB l0[j] (a, id) = true) ∧ wr = w1) (fun i _ => l0.length - (intOf i).toNat)
    case atStart => exact ⟨0, by omega, rfl, fun j hj h => by omega, rfl⟩
    case round =>
      obtain ⟨k, hk, rfl, hall, hw⟩ := hrel
      subst hw
      have c1 := t1.out.c1
      by_cases hkn : k < l0.length
      · obtain ⟨g, hp, ca, cb⟩ := t1.out.at k hkn
        subst hp
        have hcm : l0.length ≤ cap1 ∧ cap1 ≤ maxLen := by
          rcases t1.out.form with ⟨e, _⟩ | ⟨g', _, h1, h2⟩
          · cases e
          · exact ⟨h1, h2⟩
        obtain ⟨hcm1, hcm⟩ := hcm
        have hkn2 : (k : Int) < (l0.length : Int) := by omega
        have hall2 : Hid (ltB l0[k] (a, id) = true → ∀ j (hj : j < l0.length), j < k + 1 → ltB l0[j] (a, id) = true) := fun h j hj h2 => by
          by_cases e : j = k
          · subst e; exact h
          · exact hall.out j hj (by omega)
        have hplk : Hid (ltB l0[k] (a, id) = false → ins (a, id) l0 = l0.take k ++ (a, id) :: l0.drop k) := fun h => Whl_place hup0.out hk hall.out (fun _ => h)
        have hlt := Lib.hid (ltB_iff (p := l0[k]) (q := (a, id)))
        have hlf := Lib.hid (ltB_false (p := l0[k]) (q := (a, id)))
        generalize hlk : ltB l0[k] (a, id) = bb at *
        clear hlk
        generalize (l0[k]).1 = x1 at *
        generalize (l0[k]).2 = x2 at *
        by_cases hA1 : x1 < a
        · have hall3 := Lib.hid (hall2.out (hlt.out.2 (Or.inl hA1)))
          have hA2 : (x1 : Int) < (a : Int) := by omega
          clear hlt hlf hall hall2 hplk
          go_wp2_with fail
          refine ⟨⟨k + 1, by omega, by go_num, hall3, by trivial⟩, ?_⟩
          simp [intOf]; omega
        · by_cases hE : x1 = a
          · have hE2 : ((x1 : Int) == (a : Int)) = true := by simp [hE]
            by_cases hI : x2 < id
            · have hall3 := Lib.hid (hall2.out (hlt.out.2 (Or.inr ⟨hE, hI⟩)))
              have hI2 : (x2 : Int) < (id : Int) := by omega
              replace hE := Lib.hid hE
              clear hlt hlf hall hall2 hplk
              go_wp2_with fail
              refine ⟨⟨k + 1, by omega, by go_num, hall3, by trivial⟩, ?_⟩
              simp [intOf]; omega
            · have hpl := Lib.hid (hplk.out (hlf.out.2 (fun h => by rcases h with h | ⟨_, h⟩ <;> omega)))
              have hI2 : ¬ (x2 : Int) < (id : Int) := by omega
              replace hE := Lib.hid hE
              clear hlt hlf hall2 hplk
              obtain ⟨A, g3, c3, w3, v5, w5, p6, c6, w6, hA, r3, r5, r6, cc3, cc6, f6, fin, kp6, frs⟩ := set_made base _ r T l0 g cap1 a id k t1.out hk hl0
              have hAe : A = ⟨g, k * 2, none⟩ := by rw [if_neg (by omega)] at hA; exact (Option.some.inj hA).symm
              subst hAe
              have hrl := t1.out.lt
              have c1a := (((Below.refl _ _).alloc (Nat.le_refl _) (.cells #[] 45)).cell (p := ⟨r, 1, none⟩) hrl).trans c1
              have kpF := Lib.hid (kp1.out.trans kp6.out (fun i hi => .inl hi))
              have frF : Hid (Fresh w.heap.size p6) := fun g hg => Nat.le_trans kp1.out.size (frs.out g hg)
              clear hall t1 kp1 kp6 hrl frs
              have hq1 : (0 : Int) ≤ (k : Int) := by omega
              have hq2 : (k : Int) ≤ (l0.length : Int) := by omega
              have hq3 : (l0.length : Int) ≤ (cap1 : Int) := by omega
              have hq4 : (cap1 : Int) ≤ 9223372036854775807 := by unfold maxLen at hcm; omega
              have hq5 : k ≤ cap1 := by omega
              clear hcm
              go_wp2_with (at_builtin; first | (refine wpList_append_ati rfl _ _ 34 34 rfl _ _ rfl rfl r3.out ?_; clear r3) | (refine wpList_append_ati rfl _ _ 34 34 rfl _ _ rfl rfl r5.out ?_; clear r5) | (refine wpList_append_ati rfl _ _ 34 34 rfl _ _ rfl rfl r6.out ?_; clear r6))
              go_ret
              first | exact ⟨rfl, ⟨p6, c6, by rw [hpl.out]; exact fin.out, frF.out⟩, kpF.out⟩ | exact ⟨rfl, ⟨p6, ⟨c6, by rw [hpl.out]; exact fin.out⟩, frF.out⟩, kpF.out⟩
          · have hpl := Lib.hid (hplk.out (hlf.out.2 (fun h => by rcases h with h | ⟨h, _⟩ <;> simp only at h <;> omega)))
            have hE2 : ((x1 : Int) == (a : Int)) = false := by simp; omega
            clear hlt hlf hall2 hplk
            obtain ⟨A, g3, c3, w3, v5, w5, p6, c6, w6, hA, r3, r5, r6, cc3, cc6, f6, fin, kp6, frs⟩ := set_made base _ r T l0 g cap1 a id k t1.out hk hl0
            have hAe : A = ⟨g, k * 2, none⟩ := by rw [if_neg (by omega)] at hA; exact (Option.some.inj hA).symm
            subst hAe
            have hrl := t1.out.lt
            have c1a := (((Below.refl _ _).alloc (Nat.le_refl _) (.cells #[] 45)).cell (p := ⟨r, 1, none⟩) hrl).trans c1
            have kpF := Lib.hid (kp1.out.trans kp6.out (fun i hi => .inl hi))
            have frF : Hid (Fresh w.heap.size p6) := fun g hg => Nat.le_trans kp1.out.size (frs.out g hg)
            clear hall t1 kp1 kp6 hrl frs
            have hq1 : (0 : Int) ≤ (k : Int) := by omega
            have hq2 : (k : Int) ≤ (l0.length : Int) := by omega
            have hq3 : (l0.length : Int) ≤ (cap1 : Int) := by omega
            have hq4 : (cap1 : Int) ≤ 9223372036854775807 := by unfold maxLen at hcm; omega
            have hq5 : k ≤ cap1 := by omega
            clear hcm
            go_wp2_with (at_builtin; first | (refine wpList_append_ati rfl _ _ 34 34 rfl _ _ rfl rfl r3.out ?_; clear r3) | (refine wpList_append_ati rfl _ _ 34 34 rfl _ _ rfl rfl r5.out ?_; clear r5) | (refine wpList_append_ati rfl _ _ 34 34 rfl _ _ rfl rfl r6.out ?_; clear r6))
            go_ret
            first | exact ⟨rfl, ⟨p6, c6, by rw [hpl.out]; exact fin.out, frF.out⟩, kpF.out⟩ | exact ⟨rfl, ⟨p6, ⟨c6, by rw [hpl.out]; exact fin.out⟩, frF.out⟩, kpF.out⟩
      · have hpl : Hid (ins (a, id) l0 = l0.take k ++ (a, id) :: l0.drop k) := Whl_place hup0.out hk hall.out (fun h => absurd h hkn)
        obtain hkl : k = l0.length := by omega
        have hkn2 : ¬ (k : Int) < (l0.length : Int) := by omega
        rcases t1.out.form with ⟨hp1, hp2, hp3⟩ | ⟨g, hp1, hcm1, hcm⟩
        · subst hp1; subst hp2; subst hp3
          have hk0 : k = 0 := by simpa using hk
          subst hk0
          obtain ⟨v5, w5, p6, c6, w6, r3, r5, r6, cc3, cc6, f6, fin, kp6, frs⟩ := set_made0 base _ r T a id t1.out
          have kpF := Lib.hid (kp1.out.trans kp6.out (fun i hi => .inl hi))
          have frF : Hid (Fresh w.heap.size p6) := fun g hg => Nat.le_trans kp1.out.size (frs.out g hg)
          have hpl2 : Hid (ins (a, id) [] = [(a, id)]) := rfl
          clear hall t1 kp1 kp6 frs hpl hk hkl hkn hkn2 hl0 hup0
          rw [show ([] : List ItemN).length = 0 from rfl] at c1
          go_wp2_with (at_builtin; first | (refine wpList_append_ati rfl _ _ 34 34 rfl _ _ rfl rfl r3.out ?_; clear r3) | (refine wpList_append_ati rfl _ _ 34 34 rfl _ _ rfl rfl r5.out ?_; clear r5) | (refine wpList_append_ati rfl _ _ 34 34 rfl _ _ rfl rfl r6.out ?_; clear r6))
          go_ret
          first | exact ⟨rfl, ⟨p6, c6, by rw [hpl2.out]; exact fin.out, frF.out⟩, kpF.out⟩ | exact ⟨rfl, ⟨p6, ⟨c6, by rw [hpl2.out]; exact fin.out⟩, frF.out⟩, kpF.out⟩
        · subst hp1
          replace hkl := Lib.hid hkl
          obtain ⟨A, g3, c3, w3, v5, w5, p6, c6, w6, hA, r3, r5, r6, cc3, cc6, f6, fin, kp6, frs⟩ := set_made base _ r T l0 g cap1 a id k t1.out hk hl0
          have hrl := t1.out.lt
          have c1a := (((Below.refl _ _).alloc (Nat.le_refl _) (.cells #[] 45)).cell (p := ⟨r, 1, none⟩) hrl).trans c1
          have kpF := Lib.hid (kp1.out.trans kp6.out (fun i hi => .inl hi))
          have frF : Hid (Fresh w.heap.size p6) := fun g hg => Nat.le_trans kp1.out.size (frs.out g hg)
          clear hall t1 kp1 kp6 hrl frs
          have hq1 : (0 : Int) ≤ (k : Int) := by omega
          have hq2 : (k : Int) ≤ (l0.length : Int) := by omega
          have hq3 : (l0.length : Int) ≤ (cap1 : Int) := by omega
          have hq4 : (cap1 : Int) ≤ 9223372036854775807 := by unfold maxLen at hcm; omega
          have hq5 : k ≤ cap1 := by omega
          clear hcm
          go_wp2_with (at_builtin; first | (refine wpList_append_ati rfl _ _ 34 34 rfl _ _ rfl rfl r3.out ?_; clear r3) | (refine wpList_append_ati rfl _ _ 34 34 rfl _ _ rfl rfl r5.out ?_; clear r5) | (refine wpList_append_ati rfl _ _ 34 34 rfl _ _ rfl rfl r6.out ?_; clear r6))
          go_ret
          first | exact ⟨rfl, ⟨p6, c6, by rw [hpl.out]; exact fin.out, frF.out⟩, kpF.out⟩ | exact ⟨rfl, ⟨p6, ⟨c6, by rw [hpl.out]; exact fin.out⟩, frF.out⟩, kpF.out⟩
end Go.Proofs.YthobffeafddonaaDoor
