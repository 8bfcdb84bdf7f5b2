/-
  Layer 6: the document's own wheel in memory ('Rv'), and its methods New, find and Remove.
-/
import Derived.Test.YthobffeafddonaaDoorWRem
import Derived.Deep.RegionLaw
import Derived.Lib.MinMax
set_option linter.unusedVariables false
namespace Go.Proofs.YthobffeafddonaaDoor
open Go.RowKit Whl
set_option maxRecDepth 100000

def sw (p : ItemN) : ItemN := (p.2, p.1)
abbrev fi (l : List ItemN) : List Value := flat (l.map sw)
theorem fi_len (l : List ItemN) : (fi l).length = l.length * 2 := by rw [flat_len, List.length_map]
theorem fi_app (l m : List ItemN) : fi (l ++ m) = fi l ++ fi m := by show flat _ = _; rw [List.map_append, flat_app]
theorem fi_take (l : List ItemN) (k : Nat) (hk : k ≤ l.length) : fi (l.take k) = (fi l).take (k * 2) := by show flat _ = _; rw [List.map_take, flat_take _ _ (by rw [List.length_map]; exact hk)]
theorem fi_drop (l : List ItemN) (k : Nat) (hk : k ≤ l.length) : fi (l.drop k) = (fi l).drop (k * 2) := by show flat _ = _; rw [List.map_drop, flat_drop _ _ (by rw [List.length_map]; exact hk)]
theorem info45 : (Tryd.prog.info? 45).map (fun i => (i.zero, i.size, i.bytes)) = some (some (.agg #[.int .i64 0, .int .i64 0]), 2, 16) := by kernel_rfl

/-- The document's wheel: its block, and the row of its items. -/
structure Rv (base : Nat) (w : World) (r T : Nat) (l : List ItemN) (p : Option Addr) (cap : Nat) : Prop where
  blk : w.heap[r]? = some (.cells #[.int .i64 (T : Int), .slice p l.length cap] 36 (0, 0))
  own : w.ownsRow base 45 2 (.slice p l.length cap) l.length (fi l)
  len : l.length ≤ 1000
  hb : base ≤ r

theorem Rv.lt {base : Nat} {w : World} {r T : Nat} {l : List ItemN} {p : Option Addr} {cap : Nat} (t : Rv base w r T l p cap) : r < w.heap.size := by
  have := t.blk
  rcases Nat.lt_or_ge r w.heap.size with h | h
  · exact h
  · rw [Array.getElem?_eq_none h] at this; cases this
theorem Rv.c0 {base : Nat} {w : World} {r T : Nat} {l : List ItemN} {p : Option Addr} {cap : Nat} (t : Rv base w r T l p cap) : w.cell? ⟨r, 0, none⟩ = some (.int .i64 (T : Int)) := by rw [cell_of_row w r 0 _ _ _ t.blk]; rfl
theorem Rv.c1 {base : Nat} {w : World} {r T : Nat} {l : List ItemN} {p : Option Addr} {cap : Nat} (t : Rv base w r T l p cap) : w.cell? ⟨r, 1, none⟩ = some (.slice p l.length cap) := by rw [cell_of_row w r 1 _ _ _ t.blk]; rfl
theorem Rv.fz {base : Nat} {w : World} {r T : Nat} {l : List ItemN} {p : Option Addr} {cap : Nat} (t : Rv base w r T l p cap) (o : Nat) : w.frozen? ⟨r, o, none⟩ = false := frozen_of_row w r o _ _ t.blk
theorem own_samei {w w' : World} {base e size n : Nat} {v : Value} {xs : List Value} (h : w.ownsRow base e size v n xs) (hk : ∀ g, v.ownBlock = some g → w'.heap[g]? = w.heap[g]?) : w'.ownsRow base e size v n xs := by
  refine ⟨h.1, ?_⟩
  rcases h.2 with h0 | ⟨g, cap, cur, rfl, hb, hg, hr⟩
  · exact Or.inl h0
  · exact Or.inr ⟨g, cap, cur, rfl, hb, (hk g rfl).trans hg, hr⟩
theorem own_ati {w : World} {base e size n g : Nat} {v : Value} {xs : List Value} (h : w.ownsRow base e size v n xs) (hg : v.ownBlock = some g) : ∃ cur, w.heap[g]? = some (.cells cur e (0, 0)) := by
  rcases h.2 with ⟨rfl, _⟩ | ⟨g', cap, cur, rfl, _, hh, _⟩
  · simp [Value.ownBlock] at hg
  · simp [Value.ownBlock] at hg
    subst hg
    exact ⟨cur, hh⟩
theorem type_nei {w : World} {a b : Nat} {c d : Array Value} {t u : Nat} {f h : Nat × Nat} (h1 : w.heap[a]? = some (.cells c t f)) (h2 : w.heap[b]? = some (.cells d u h)) (hn : t ≠ u) : a ≠ b := by
  intro e
  subst e
  rw [h1] at h2
  injection h2 with h2
  injection h2 with _ h3 _
  exact hn h3
theorem Rv.same {base : Nat} {w w' : World} {r T : Nat} {l : List ItemN} {p : Option Addr} {cap : Nat} (t : Rv base w r T l p cap) (hb : w'.heap[r]? = w.heap[r]?) (hg : ∀ g, (Value.slice p l.length cap).ownBlock = some g → w'.heap[g]? = w.heap[g]?) : Rv base w' r T l p cap :=
  ⟨hb.trans t.blk, own_samei t.own hg, t.len, t.hb⟩
theorem Rv.below {base : Nat} {w w' : World} {r T : Nat} {l : List ItemN} {p : Option Addr} {cap : Nat} (t : Rv base w r T l p cap) (k : Below w.heap.size w w') : Rv base w' r T l p cap :=
  t.same (k.block r t.lt) fun g hg => k.block g (t.own.lt g hg).2
theorem Rv.drew {base : Nat} {w : World} {r T : Nat} {l : List ItemN} {p : Option Addr} {cap : Nat} (t : Rv base w r T l p cap) : Rv base w.drew r T l p cap := t.same rfl fun _ _ => rfl
theorem Rv.form {base : Nat} {w : World} {r T : Nat} {l : List ItemN} {p : Option Addr} {cap : Nat} (t : Rv base w r T l p cap) : (p = none ∧ cap = 0 ∧ l = []) ∨ ∃ g, p = some ⟨g, 0, none⟩ ∧ l.length ≤ cap ∧ cap ≤ maxLen := by
  rcases t.own.2 with ⟨h1, h2⟩ | ⟨g, cap', cur, h1, _, _, h4, h5, _⟩
  · injection h1 with a1 a2 a3
    exact Or.inl ⟨a1, a3, List.length_eq_zero_iff.1 h2⟩
  · injection h1 with a1 a2 a3
    subst a3
    exact Or.inr ⟨g, a1, h4, h5⟩
/-- The cells of the i-th item. -/
theorem Rv.at {base : Nat} {w : World} {r T : Nat} {l : List ItemN} {p : Option Addr} {cap : Nat} (t : Rv base w r T l p cap) (i : Nat) (hi : i < l.length) :
    ∃ g, p = some ⟨g, 0, none⟩ ∧ w.cell? ⟨g, i * 2, none⟩ = some (.int .i64 ((l[i].2 : Nat) : Int)) ∧ w.cell? ⟨g, i * 2 + 1, none⟩ = some (.int .i64 ((l[i].1 : Nat) : Int)) := by
  rcases t.form with ⟨_, _, rfl⟩ | ⟨g, rfl, _, _⟩
  · simp at hi
  · have hf := flat_at (l.map sw) i (by simpa using hi)
    have hc := t.own.cells (g := g) rfl
    refine ⟨g, rfl, ?_, ?_⟩
    · have := hc _ _ hf.1
      rw [Addr.add_lit] at this
      simpa [sw] using this
    · have := hc _ _ hf.2
      rw [Addr.add_lit] at this
      simpa [sw] using this

theorem refNew (base : Nat) (n : Int) (n0 : Nat) (w : World) (hn : min (max n 0) 1099511627776 = (n0 : Int)) (hb : base ≤ w.heap.size) :
    Calls Tryd.prog 10 #[.int .i64 n] w fun e w' => e = .returned (.pointer (some ⟨w.heap.size, 0, none⟩)) ∧ Rv base w' w.heap.size n0 [] none 0 ∧ Below w.heap.size w w' := by
  go_enter Tryd.func10, Tryd.ntmps10
  go_wp2_with fail
  go_ret
  exact ⟨rfl, ⟨heap_alloc_new w _, World.ownsRow_nil _ _ _ _, by simp, hb⟩, (Below.refl _ _).alloc (Nat.le_refl _) _⟩

/-- The first place of an id, or none. -/
theorem find_any (base : Nat) (w : World) (r T : Nat) (l : List ItemN) (p : Option Addr) (cap : Nat) (id : Int) (t : Rv base w r T l p cap) (k : Nat) (hk : k ≤ l.length) (hn : ∀ i (hi : i < k), ((l[i]'(by omega)).2 : Int) ≠ id) (he : ∀ h : k < l.length, (l[k].2 : Int) = id) (z : Int) (hz : z = if k < l.length then (k : Int) else -1) :
    Calls Tryd.prog 26 #[.pointer (some ⟨r, 0, none⟩), .int .i64 id] w fun e w' => e = .returned (.int .i64 z) ∧ w = w' := by
  have c1 := t.c1
  have hlen := t.len
  have hat := Lib.hid (t.at)
  have hn0 := Lib.hid hn
  have he0 := Lib.hid he
  have hz0 := Lib.hid hz
  replace t := Lib.hid t
  clear hn he hz
  obtain ⟨n, hnn⟩ : ∃ n, n = l.length := ⟨_, rfl⟩
  have hnn0 := Lib.hid hnn
  rw [← hnn] at hk c1 hlen
  clear hnn
  go_enter Tryd.func26, Tryd.ntmps26
  go_wp2_with fail
  go_loopw [5] (fun i wr => ∃ j : Nat, j ≤ k ∧ i = .int .i64 j ∧ wr = w) (fun i _ => n - (intOf i).toNat)
  case atStart => exact ⟨0, by omega, rfl, rfl⟩
  case round =>
    obtain ⟨j, hj, rfl, rfl⟩ := hrel
    by_cases hjn : j < n
    · obtain ⟨g, hp, ca, cb⟩ := hat.out j (by rw [← hnn0.out]; exact hjn)
      subst hp
      by_cases hjk : j < k
      · have e0 : (((l[j]'(by rw [← hnn0.out]; exact hjn)).2 : Int) == id) = false := by simpa using hn0.out j hjk
        generalize (l[j]'(by rw [← hnn0.out]; exact hjn)).2 = x at *
        clear hat hn0 he0
        have hjn2 : (j : Int) < n := by omega
        go_wp2_with fail
        refine ⟨⟨j + 1, by omega, by go_num, by trivial⟩, ?_⟩
        simp [intOf]; omega
      · obtain rfl : j = k := by omega
        have e0 : (((l[j]'(by rw [← hnn0.out]; exact hjn)).2 : Int) == id) = true := by simpa using he0.out (by rw [← hnn0.out]; exact hjn)
        have hz2 : Hid (z = (j : Int)) := by show z = _; rw [hz0.out, if_pos (by rw [← hnn0.out]; exact hjn)]
        generalize (l[j]'(by rw [← hnn0.out]; exact hjn)).2 = x at *
        clear hat hn0 he0
        have hjn2 : (j : Int) < n := by omega
        go_wp2_with fail
        go_ret
        exact ⟨by rw [hz2.out]; rfl, rfl⟩
    · have hz2 : Hid (z = -1) := by show z = _; rw [hz0.out, if_neg (by rw [← hnn0.out]; omega)]
      clear hat hn0 he0
      have hjn2 : ¬ (j : Int) < n := by omega
      go_wp2_with fail
      go_ret
      exact ⟨by rw [hz2.out]; rfl, rfl⟩
end Go.Proofs.YthobffeafddonaaDoor
