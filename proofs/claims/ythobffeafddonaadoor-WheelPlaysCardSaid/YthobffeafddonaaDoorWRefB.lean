/-
  Layer 6: the document's own Remove.
-/
import Derived.Test.YthobffeafddonaaDoorWRefA
set_option linter.unusedVariables false
namespace Go.Proofs.YthobffeafddonaaDoor
open Go.RowKit Whl
set_option maxRecDepth 100000

theorem own_basei {w : World} {base b2 e size n : Nat} {v : Value} {xs : List Value} (h : w.ownsRow base e size v n xs) (hb : b2 ≤ base) : w.ownsRow b2 e size v n xs := by
  refine ⟨h.1, ?_⟩
  rcases h.2 with h0 | ⟨g, cap, cur, rfl, h1, hg, hr⟩
  · exact Or.inl h0
  · exact Or.inr ⟨g, cap, cur, rfl, by omega, hg, hr⟩
theorem own_slicei {w : World} {base e size n : Nat} {v : Value} {xs : List Value} (h : w.ownsRow base e size v n xs) : ∃ p cap, v = .slice p n cap := by
  rcases h.2 with ⟨rfl, rfl⟩ | ⟨g, cap, cur, rfl, _⟩
  · exact ⟨none, 0, rfl⟩
  · exact ⟨_, cap, rfl⟩
/-- The cells from the k-th item on, where the cut's address is. -/
theorem Rv.cut {base : Nat} {w : World} {r T : Nat} {l : List ItemN} {g cap : Nat} (t : Rv base w r T l (some ⟨g, 0, none⟩) cap) (k : Nat) (hk : k ≤ l.length) :
    ∃ A : Addr, (if cap = k then some (⟨g, 0, none⟩ : Addr) else some ⟨g, k * 2, none⟩) = some A ∧ ∀ W : World, W.heap[g]? = w.heap[g]? → ∀ j u, (fi (l.drop k))[j]? = some u → W.cell? (A.add j) = some u := by
  by_cases h : cap = k
  · refine ⟨⟨g, 0, none⟩, by simp [h], fun W hW j u hu => ?_⟩
    have hl : l.length ≤ cap := by
      rcases t.form with ⟨e, _⟩ | ⟨g', e, h1, _⟩
      · cases e
      · exact h1
    have : (fi (l.drop k)).length = 0 := by rw [fi_len, List.length_drop]; omega
    rw [List.length_eq_zero_iff.1 this] at hu
    simp at hu
  · refine ⟨⟨g, k * 2, none⟩, by simp [h], fun W hW j u hu => ?_⟩
    rw [fi_drop l k hk, List.getElem?_drop] at hu
    have hc := t.own.cells (g := g) rfl _ _ hu
    rw [Addr.add_lit] at hc ⊢
    rw [World.cell?_of_block (w := w) hW]
    simpa using hc
theorem Rv.front {base : Nat} {w : World} {r T : Nat} {l : List ItemN} {g cap : Nat} (t : Rv base w r T l (some ⟨g, 0, none⟩) cap) (k : Nat) (hk : k ≤ l.length) (W : World) (hW : W.heap[g]? = w.heap[g]?) : ∀ j u, (fi (l.take k))[j]? = some u → W.cell? ((⟨g, 0, none⟩ : Addr).add j) = some u := fun j u hu => by
  rw [fi_take l k hk, List.getElem?_take] at hu
  split at hu
  · have hc := t.own.cells (g := g) rfl _ _ hu
    rw [Addr.add_lit] at hc ⊢
    rw [World.cell?_of_block (w := w) hW]
    exact hc
  · cases hu
/-- The row is not among the blocks below B. -/
abbrev Fresh (B : Nat) (p : Option Addr) : Prop := ∀ g, (Value.slice p 0 0).ownBlock = some g → B ≤ g
theorem own_eq (p : Option Addr) (n cap : Nat) : (Value.slice p n cap).ownBlock = (Value.slice p 0 0).ownBlock := by cases p <;> rfl
theorem fresh_of {w : World} {B e size n cap : Nat} {p : Option Addr} {xs : List Value} (h : w.ownsRow B e size (.slice p n cap) n xs) : Fresh B p := fun g hg => (h.lt g ((own_eq p n cap).trans hg)).1
/-- The block written anew with another list. -/
theorem Rv.set {base : Nat} {w : World} {r T n cap : Nat} {v : Value} {p : Option Addr} {l : List ItemN} (hb : w.heap[r]? = some (.cells #[.int .i64 (T : Int), v] 36 (0, 0))) (o : w.ownsRow base 45 2 (.slice p n cap) n (fi l)) (hn : n = l.length) (hl : l.length ≤ 1000) (hbr : base ≤ r) : Rv base (w.setCell ⟨r, 1, none⟩ (.slice p n cap)) r T l p cap := by
  subst hn
  refine ⟨?_, own_samei o fun g hg => Below.heap_setCell _ _ _ _ (fun e => ?_), hl, hbr⟩
  · rw [heap_setCell_same w r 1 _ _ _ hb]; rfl
  · obtain ⟨cur, hc⟩ := own_ati o hg
    exact type_nei hc hb (by decide) e

theorem refRem_none (base : Nat) (w : World) (r T : Nat) (l : List ItemN) (p : Option Addr) (cap : Nat) (id : Int) (t : Rv base w r T l p cap) (hn : ∀ q ∈ l, (q.2 : Int) ≠ id) :
    Calls Tryd.prog 14 #[.pointer (some ⟨r, 0, none⟩), .int .i64 id] w fun e w' => e = .returned (.bool false) ∧ w = w' := by
  have hf := Lib.hid (find_any base w r T l p cap id t l.length (Nat.le_refl _) (fun i hi => hn _ (List.getElem_mem _)) (fun h => by omega) (-1) (by simp))
  clear hn t
  go_enter Tryd.func14, Tryd.ntmps14
  go_wp2_with fail
  refine hf.out.mono ?_
  rintro e w' ⟨rfl, rfl⟩
  go_wp2_with fail
  go_ret
  exact ⟨rfl, rfl⟩

set_option maxHeartbeats 4000000 in
theorem refRem_some (base : Nat) (w : World) (r T : Nat) (l : List ItemN) (p : Option Addr) (cap : Nat) (id : Int) (t : Rv base w r T l p cap) (i : Nat) (hi : i < l.length) (hn : ∀ j (hj : j < i), ((l[j]'(by omega)).2 : Int) ≠ id) (he : (l[i].2 : Int) = id) :
    Calls Tryd.prog 14 #[.pointer (some ⟨r, 0, none⟩), .int .i64 id] w fun e w' => e = .returned (.bool true) ∧ (∃ p' cap', Rv base w' r T (l.take i ++ l.drop (i + 1)) p' cap' ∧ Fresh w.heap.size p') ∧ Kp (fun k => k = r) w w' := by
  have hf := Lib.hid (find_any base w r T l p cap id t i (by omega) hn (fun _ => he) (i : Int) (by rw [if_pos hi]))
  clear hn he
  obtain ⟨i0, hi0, hz0, hzs, hzb⟩ := info_parts info45
  obtain ⟨g, rfl, hlc, hcm⟩ : ∃ g, p = some ⟨g, 0, none⟩ ∧ l.length ≤ cap ∧ cap ≤ maxLen := by
    rcases t.form with ⟨_, _, rfl⟩ | h
    · simp at hi
    · exact h
  have hgl := (t.own.lt g rfl).2
  have hrl := t.lt
  have hlen := t.len
  -- the empty row, and what is in front
  have k1 : Below w.heap.size w (w.alloc (.cells #[] 45)).drew := ((Below.refl _ _).alloc (Nat.le_refl _) _).drew
  have o0 : (w.alloc (.cells #[] 45)).drew.ownsRow w.heap.size 45 2 (.slice (some ⟨w.heap.size, 0, none⟩) 0 0) 0 [] := own_samei (World.ownsRow_made w #[] 0 (Nat.le_refl _) (by unfold maxLen; omega) rfl) fun _ _ => rfl
  obtain ⟨v1, w1, r1, o1, g1, -⟩ := run_append_own (P := Tryd.prog) _ w.heap.size 34 34 45 i0 _ 2 16 Tryd.underlying34 hi0 hz0 hzs hzb rfl (by omega) _ 0 [] o0 ⟨g, 0, none⟩ i cap (fi (l.take i)) (by rw [fi_len, List.length_take]; omega) (t.front i (by omega) _ (k1.block g hgl)) (flat_one _) (by unfold maxLen; omega) (by omega) (k1.size)
  have hb1 : ∀ k, k < w.heap.size → w1.heap[k]? = w.heap[k]? := fun k hk => (g1.block k (Nat.lt_of_lt_of_le hk k1.size) (fun e => by simp [Value.ownBlock] at e; omega)).trans (k1.block k hk)
  obtain ⟨A, hA, hsrc⟩ := t.cut (i + 1) (by omega)
  obtain ⟨v2, w2, r2, o2, g2, -⟩ := run_append_own (P := Tryd.prog) w1 w.heap.size 34 34 45 i0 _ 2 16 Tryd.underlying34 hi0 hz0 hzs hzb rfl (by omega) _ _ _ o1 A (l.length - (i + 1)) (cap - (i + 1)) (fi (l.drop (i + 1))) (by rw [fi_len, List.length_drop]) (hsrc w1 (hb1 g hgl)) (flat_one _) (by unfold maxLen; omega) (by omega) (Nat.le_trans k1.size g1.size)
  have hb2 : ∀ k, k < w.heap.size → w2.heap[k]? = w.heap[k]? := fun k hk => (g2.block k (Nat.lt_of_lt_of_le hk (Nat.le_trans k1.size g1.size)) (fun e => by have := (o1.lt k e.symm).1; omega)).trans (hb1 k hk)
  rw [Nat.zero_add] at o2
  obtain ⟨p', cap', rfl⟩ := own_slicei o2
  rw [List.nil_append, ← fi_app] at o2
  have hll : i + (l.length - (i + 1)) = (l.take i ++ l.drop (i + 1)).length := by simp; omega
  have fin : Hid (Rv base (w2.setCell ⟨r, 1, none⟩ (.slice p' (i + (l.length - (i + 1))) cap')) r T (l.take i ++ l.drop (i + 1)) p' cap') := Rv.set ((hb2 r hrl).trans t.blk) (own_basei o2 (by have := t.hb; omega)) hll (by rw [← hll]; omega) t.hb
  have fr : Hid (Fresh w.heap.size p') := fresh_of o2
  have kp : Hid (Kp (fun k => k = r) w (w2.setCell ⟨r, 1, none⟩ (.slice p' (i + (l.length - (i + 1))) cap'))) := ⟨(g2.os.trans g1.os).trans k1.os, (g2.tape.trans g1.tape).trans k1.tape, (g2.output.trans g1.output).trans k1.output, by simp [World.setCell]; exact Nat.le_trans k1.size (Nat.le_trans g1.size g2.size), fun k hk hn => (Below.heap_setCell _ _ _ _ hn).trans (hb2 k hk)⟩
  have c1 := t.c1
  have c1a : (w.alloc (.cells #[] 45)).cell? ⟨r, 1, none⟩ = some (.slice (some ⟨g, 0, none⟩) l.length cap) := (World.cell?_of_block (w := w) (k1.block r hrl)).trans c1
  have c1b : w1.cell? ⟨r, 1, none⟩ = some (.slice (some ⟨g, 0, none⟩) l.length cap) := (World.cell?_of_block (w := w) (hb1 r hrl)).trans c1
  have c1c : w2.cell? ⟨r, 1, none⟩ = some (.slice (some ⟨g, 0, none⟩) l.length cap) := (World.cell?_of_block (w := w) (hb2 r hrl)).trans c1
  have f1c : w2.frozen? ⟨r, 1, none⟩ = false := (World.frozen?_of_block (w := w) (hb2 r hrl)).trans (t.fz 1)
  have hj1 : (0 : Int) ≤ (i : Int) := by omega
  have hj2 : (i : Int) ≤ (cap : Int) := by omega
  have hj3 : (0 : Int) ≤ (i : Int) + 1 := by omega
  have hj4 : (i : Int) + 1 ≤ (l.length : Int) := by omega
  have hj5 : (l.length : Int) ≤ (cap : Int) := by omega
  have hj6 : (cap : Int) ≤ 9223372036854775807 := by unfold maxLen at hcm; omega
  have hw1 : IntKind.i64.wrap ((i : Int) + 1) = (i : Int) + 1 := IntWalk.i64_in _ (by omega)
  have hic : i ≤ cap := by omega
  have hjc : i + 1 ≤ cap := by omega
  have hjn : i + 1 ≤ l.length := by omega
  replace r1 := Lib.hid r1
  replace r2 := Lib.hid r2
  clear t k1 o0 o1 g1 hb1 hsrc o2 g2 hb2 hll hi0 hz0 hzs hzb hcm
  go_enter Tryd.func14, Tryd.ntmps14
  go_wp2_with fail
  refine hf.out.mono ?_
  rintro e w' ⟨rfl, rfl⟩
  clear hf
  go_wp2_with fail
  go_region_law (first | (refine step_append_at (by rfl) _ _ 34 34 (by rfl) _ _ (by rfl) (by rfl) r1.out ?_) | (refine step_append_at (by rfl) _ _ 34 34 (by rfl) _ _ (by rfl) (by rfl) r2.out ?_))
  all_goals
    clear r1 r2 c1 c1a c1b c1c f1c
    go_wp2_with fail
    go_ret
    exact ⟨rfl, ⟨_, _, fin.out, fr.out⟩, kp.out⟩
end Go.Proofs.YthobffeafddonaaDoor
