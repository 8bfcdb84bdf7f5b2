/-
  Layer 6: cells written one behind the other; slices.Delete of one pair, and the program's without and copyOf.
-/
import Derived.Test.YthobffeafddonaaDoorWMin
import Derived.Deep.RegionLaw
import Derived.Laws.IdiomCopy
set_option linter.unusedVariables false
namespace Go.Proofs.YthobffeafddonaaDoor
open Go.RowKit Whl

/-- A row with some of its cells written. -/
def layIn (cur : List Value) (o : Nat) (vs : List Value) : List Value := cur.take o ++ vs ++ cur.drop (o + vs.length)
theorem layIn_len {cur vs : List Value} {o : Nat} (h : o + vs.length ≤ cur.length) : (layIn cur o vs).length = cur.length := by
  simp [layIn]; omega
theorem layIn_cons {cur : List Value} {o : Nat} {v : Value} {r : List Value} (h : o + (r.length + 1) ≤ cur.length) : layIn (cur.set o v) (o + 1) r = layIn cur o (v :: r) := by
  have e1 : (cur.set o v).take (o + 1) = cur.take o ++ [v] := by
    rw [List.take_succ_eq_append_getElem (by simp; omega)]
    simp [List.take_set]
    apply List.set_eq_of_length_le
    simp
    omega
  have e2 : (cur.set o v).drop (o + 1 + r.length) = cur.drop (o + 1 + r.length) := List.drop_set_of_lt (by omega)
  unfold layIn
  rw [e1, e2]
  simp [Nat.add_assoc, Nat.add_comm 1]
theorem heap_setCells {g : Nat} {t : TypeId} : ∀ (vs : List Value) (o : Nat) (w : World) (cur : Array Value), w.heap[g]? = some (.cells cur t (0, 0)) → o + vs.length ≤ cur.size → (w.setCells g o vs).heap[g]? = some (.cells (layIn cur.toList o vs).toArray t (0, 0))
  | [], o, w, cur, h, _ => by
    show w.heap[g]? = _
    rw [h]
    simp [layIn]
  | v :: r, o, w, cur, h, hl => by
    have h1 := heap_setCell_same w g o cur t v h
    have := heap_setCells r (o + 1) (w.setCell ⟨g, o, none⟩ v) (cur.setIfInBounds o v) h1 (by simp at hl ⊢; omega)
    show ((w.setCell ⟨g, o, none⟩ v).setCells g (o + 1) r).heap[g]? = _
    rw [this, Array.toList_setIfInBounds, layIn_cons (by simpa using hl)]
theorem heap_setCells_other {g k : Nat} (hk : k ≠ g) : ∀ (vs : List Value) (o : Nat) (w : World), (w.setCells g o vs).heap[k]? = w.heap[k]?
  | [], o, w => rfl
  | v :: r, o, w => (heap_setCells_other hk r (o + 1) _).trans (heap_setCell_other _ _ _ _ hk)
theorem grown_setCells (g : Nat) : ∀ (vs : List Value) (o : Nat) (w : World), w.grownBy (w.setCells g o vs) (some g)
  | [], o, w => ⟨rfl, rfl, rfl, Nat.le_refl _, fun _ _ _ => rfl⟩
  | v :: r, o, w => by
    have h := grown_setCells g r (o + 1) (w.setCell ⟨g, o, none⟩ v)
    have h0 : w.grownBy (w.setCell ⟨g, o, none⟩ v) (some g) := ⟨rfl, rfl, rfl, by simp [World.setCell], fun k _ hk => heap_setCell_other _ _ _ _ (fun e => hk (by rw [e]))⟩
    exact h0.trans h
theorem grown_drew {w w' : World} {r : Option Nat} (h : w.grownBy w' r) : w.grownBy w'.drew r := ⟨h.os, h.tape, h.output, h.size, h.block⟩
theorem drew_grown {w w' : World} {r : Option Nat} (h : w.drew.grownBy w' r) : w.grownBy w' r := ⟨h.os, h.tape, h.output, h.size, h.block⟩
theorem Rw.row {base : Nat} {w : World} {l : List ItemN} {g cap : Nat} (h : Rw base w (.slice (some ⟨g, 0, none⟩) l.length cap) l) :
    ∃ cur : Array Value, base ≤ g ∧ w.heap[g]? = some (.cells cur 52 (0, 0)) ∧ l.length ≤ cap ∧ cap ≤ maxLen ∧ cur.size = cap * 2 ∧ cur.toList.take (l.length * 2) = flat l := by
  rcases h.2 with ⟨h1, _⟩ | ⟨g', cap', cur, h1, h2, h3, h4, h5, h6, h7⟩
  · cases h1
  · injection h1 with a b c
    injection a with a
    injection a with a _ _
    subst a c
    exact ⟨cur, h2, h3, h4, h5, h6, h7⟩
theorem Rw.of_row {base : Nat} {w : World} {l : List ItemN} {g cap : Nat} {cur : Array Value} (h1 : base ≤ g) (h2 : w.heap[g]? = some (.cells cur 52 (0, 0))) (h3 : l.length ≤ cap) (h4 : cap ≤ maxLen) (h5 : cur.size = cap * 2) (h6 : cur.toList.take (l.length * 2) = flat l) :
    Rw base w (.slice (some ⟨g, 0, none⟩) l.length cap) l := ⟨flat_len l, .inr ⟨g, cap, cur, rfl, h1, h2, h3, h4, h5, h6⟩⟩

theorem clear_two (g o c : Nat) (cur : Array Value) (w : World) (ty : TypeId) (h : w.heap[g]? = some (.cells cur 52 (0, 0))) (hl : o + 2 ≤ cur.size) :
    (Builtin.clear_ #[39] ty #[.slice (some ⟨g, o, none⟩) 1 c]).run Tryd.prog w = .ok (.tuple #[]) (w.setCells g o [.int .i64 0, .int .i64 0]) := by
  have hst := run_storeCells_cells (P := Tryd.prog) g o [.int .i64 0, .int .i64 0] 0 w (fun j hj => by
    rw [cell_of_row w g _ cur 52 (0, 0) h, Array.getElem?_eq_getElem (by simp at hj; omega)]; rfl) (fun j hj => frozen_of_row w g _ cur 52 h) (fun v hv => by
    simp at hv; subst hv; rfl)
  simp only [Nat.add_zero] at hst
  have hz : (Builtin.zeroCells (Value.agg #[.int .i64 0, .int .i64 0]).cells 1).toList = [.int .i64 0, .int .i64 0] := by kernel_rfl
  simp [Builtin.clear_, run_underlying Tryd.underlying39, Tryd.zeroValue52, hz, hst]

set_option maxHeartbeats 4000000 in
set_option maxRecDepth 100000 in
theorem delete_any (base g cap : Nat) (l : List ItemN) (i : Nat) (w : World) (hr : Rw base w (.slice (some ⟨g, 0, none⟩) l.length cap) l) (hi : i < l.length) (hlen : l.length ≤ 1000000) :
    Calls Tryd.prog 45 #[.slice (some ⟨g, 0, none⟩) l.length cap, .int .i64 i, .int .i64 ((i + 1 : Nat) : Int)] w fun e w' => e = .returned (.slice (some ⟨g, 0, none⟩) (l.length - 1) cap) ∧ Rw base w' (.slice (some ⟨g, 0, none⟩) (l.eraseIdx i).length cap) (l.eraseIdx i) ∧ w.grownBy w' (some g) := by
  obtain ⟨cur, h1, h2, h3, h4, h5, h6⟩ := hr.row
  have hlE : (l.eraseIdx i).length = l.length - 1 := List.length_eraseIdx_of_lt hi
  obtain ⟨news, hnews⟩ : ∃ news, news = flat (l.drop (i + 1)) := ⟨_, rfl⟩
  have hnl : news.length = (l.length - (i + 1)) * 2 := by rw [hnews, flat_len, List.length_drop]
  obtain ⟨W1, hW1⟩ : ∃ W1, W1 = w.drew.setCells g (0 + i * 2) news := ⟨_, rfl⟩
  have g1 : w.drew.grownBy W1 (some g) := by rw [hW1]; exact grown_setCells g _ _ _
  have r1 : W1.heap[g]? = some (.cells (layIn cur.toList (0 + i * 2) news).toArray 52 (0, 0)) := by rw [hW1]; exact heap_setCells _ _ _ cur h2 (by omega)
  have r1s : (layIn cur.toList (0 + i * 2) news).toArray.size = cap * 2 := by
    rw [List.size_toArray, layIn_len (by simp; omega)]; simp [h5]
  have hcl : ∀ ty c, (Builtin.clear_ #[39] ty #[.slice (some ⟨g, (l.length - 1) * 2, none⟩) 1 c]).run Tryd.prog W1 = .ok (.tuple #[]) (W1.setCells g ((l.length - 1) * 2) [.int .i64 0, .int .i64 0]) := fun ty c => clear_two g _ c _ W1 ty r1 (by omega)
  have fin : Hid (Rw base (W1.setCells g ((l.length - 1) * 2) [.int .i64 0, .int .i64 0]) (.slice (some ⟨g, 0, none⟩) (l.eraseIdx i).length cap) (l.eraseIdx i) ∧ w.grownBy (W1.setCells g ((l.length - 1) * 2) [.int .i64 0, .int .i64 0]) (some g)) := by
    refine ⟨Rw.of_row h1 (heap_setCells _ _ _ _ r1 (by simp only [List.length_cons, List.length_nil]; omega)) (by omega) h4 ?_ ?_, drew_grown (g1.trans (grown_setCells g _ _ _))⟩
    · rw [List.size_toArray, layIn_len (by simp only [List.length_cons, List.length_nil]; rw [List.size_toArray] at r1s; omega), ← r1s, List.size_toArray]
    · have e : l.eraseIdx i = l.take i ++ l.drop (i + 1) := List.eraseIdx_eq_take_drop_succ l i
      have ht : flat (l.take i) = cur.toList.take (i * 2) := by
        rw [flat_take l i (by omega), ← h6, List.take_take]; congr 1; omega
      rw [e, flat_app, ht, ← hnews, ← e, hlE]
      unfold layIn
      rw [List.append_assoc (List.take ((l.length - 1) * 2) _), List.take_left' (by simp; omega)]
      rw [List.take_left' (by simp; omega)]
      simp
  have hcell : Hid (∀ j, j < cap * 2 → ∃ u, w.drew.cell? ⟨g, j, none⟩ = some u ∧ w.drew.frozen? ⟨g, j, none⟩ = false) := fun j hj =>
    ⟨cur[j]'(by omega), (cell_of_row w g j cur 52 (0, 0) h2).trans (Array.getElem?_eq_getElem (by omega)), frozen_of_row w g j cur 52 h2⟩
  obtain ⟨A, hA, hsrc⟩ : ∃ A : Addr, (if cap = i + 1 then some (⟨g, 0, none⟩ : Addr) else some ⟨g, (i + 1) * 2, none⟩) = some A ∧ Hid (∀ t u, news[t]? = some u → w.drew.cell? (A.add t) = some u) := by
    by_cases h : cap = i + 1
    · refine ⟨⟨g, 0, none⟩, by simp [h], fun t u hu => ?_⟩
      have h0 : news.length = 0 := by omega
      rw [List.length_eq_zero_iff.1 h0] at hu
      simp at hu
    · refine ⟨⟨g, (i + 1) * 2, none⟩, by simp [h], fun t u hu => ?_⟩
      have ht := (List.getElem?_eq_some_iff.1 hu).1
      rw [Addr.add_lit]
      show w.cell? _ = _
      rw [cell_of_row w g _ cur 52 (0, 0) h2]
      rw [hnews, flat_drop l (i + 1) (by omega), List.getElem?_drop, ← h6, List.getElem?_take] at hu
      split at hu
      · simpa using hu
      · cases hu
  have s1 : Hid (news.length = (l.length - (i + 1)) * 2) := hnl
  have s2 : Hid (∀ u ∈ news, u.oneCell' = true) := by rw [hnews]; exact flat_one _
  have s3 : Hid (∀ t, t < news.length → (w.drew.cell? ⟨g, 0 + i * 2 + t, none⟩).isSome = true ∧ w.drew.frozen? ⟨g, 0 + i * 2 + t, none⟩ = false) := by
    intro t ht
    obtain ⟨u, e1, e2⟩ := hcell.out (0 + i * 2 + t) (by omega)
    exact ⟨by rw [e1]; rfl, e2⟩
  have hW : Hid (W1 = w.drew.setCells g (0 + i * 2) news) := hW1
  obtain ⟨i0, hi0, hz0, hzs, hzb⟩ := info_parts info52
  have hn1 : (l.length : Int) ≤ 1000000 := by omega
  have hi1 : (i : Int) < l.length := by omega
  have hc1 : (l.length : Int) ≤ cap := by omega
  have hc2 : (cap : Int) ≤ 9223372036854775807 := by simp only [maxLen] at h4; omega
  clear hr h2 g1 r1 r1s hnews hnl hW1 hcell h6 h5
  have en : l.length - 1 = i + (l.length - (i + 1)) := by omega
  rw [en] at hcl fin ⊢
  have hic : i ≤ cap := by omega
  have hjc : i + 1 ≤ cap := by omega
  have hjn : i + 1 ≤ l.length := by omega
  generalize hm : l.length - (i + 1) = m at *
  have hlm : l.length = i + m + 1 := by omega
  have hx1 : l.length - (i + m) = 1 := by omega
  rw [hlm] at *
  have hb1 : (0 : Int) ≤ (i : Int) + 1 := by omega
  have hb2 : (i : Int) ≤ (i : Int) + (m : Int) := by omega
  go_enter Tryd.func45, Tryd.ntmps45
  go_wp2_with fail
  go_region_law (refine step_append_room rfl (.tmp 22) (.tmp 25) 39 rfl 52 i0 2 Tryd.underlying39 hi0 hzs g 0 i cap (by simp [Act.eval, Act.put]) A m (cap - (i + 1)) news (by simp [Act.eval, Act.put]) s1.out hsrc.out s2.out (by omega) s3.out ?_; rw [← hW.out])
  go_wp2_with fail
  go_ret
  exact ⟨rfl, fin.out.1, fin.out.2⟩
end Go.Proofs.YthobffeafddonaaDoor
