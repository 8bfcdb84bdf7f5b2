/-
  Layer 6: a slice of numbers that came in, and wheels beside each other.
-/
import Derived.Test.YthobffeafddonaaDoorLift
import Derived.ChangeSlices
set_option linter.unusedVariables false
namespace Go.Proofs.YthobffeafddonaaDoor
open Go.ChangeShapes Go.WideShapes Go.ChangeAt Go.RowKit Whl

theorem laidOut : laidOutB Tryd.prog = true := by kernel_rfl
/-- A slice of numbers that came in, as it is read. -/
def Ints (q : IntKind) (w : World) (a : Option Addr) (n : Nat) (f : Nat → Int) : Prop := ∀ i, i < n → ∃ b off, a = some ⟨b, off, none⟩ ∧ w.cell? ⟨b, off + i, none⟩ = some (.int q (f i)) ∧ (Lit.int q (f i)).wf = true
theorem Ints.keep {q : IntKind} {w w' : World} {a : Option Addr} {n : Nat} {f : Nat → Int} (h : Ints q w a n f) (k : Below w.heap.size w w') : Ints q w' a n f := fun i hi => by
  obtain ⟨b, off, e, c, z⟩ := h i hi
  exact ⟨b, off, e, (k.cell (p := ⟨b, off + i, none⟩) (World.block_lt_of_cell? w _ c)).trans c, z⟩
theorem ints_of {H : Type} {enc : TypeId × Value → H} {W : World} {fuel : Nat} {a : Option Addr} {len cap : Nat} {x : DataW H × List MemPlace} {t e : TypeId} {q : IntKind} (ht : Tryd.prog.underlying t = some (.slice e)) (he : Tryd.prog.underlying e = some (.int q)) (hc : Tryd.prog.cellsOf e = 1)
    (h : DataW.trod enc Tryd.prog W 0 (fun _ => true) true fuel t (Value.cells (.slice a len cap)).toList = some x) : ∃ f, Ints q W a len f := by
  rcases open_ints ht he hc h with ⟨hcs, _⟩ | ⟨y, l, c, zs, hcs, _, hl, hm, hz, hx, hcell, hws⟩
  · simp [Value.cells] at hcs
    exact ⟨fun _ => 0, fun i hi => by omega⟩
  · simp [Value.cells] at hcs
    obtain ⟨rfl, rfl, rfl⟩ := hcs
    refine ⟨fun i => zs.getD i 0, fun i hi => ?_⟩
    obtain ⟨b, off, spot⟩ := y
    have hz : zs.length = cap := by simpa using hz
    have hc0 := hcell 0 (by omega)
    have hspot : spot = none := by simpa [Addr.add] using World.cell?_spot hc0
    subst hspot
    have hadd : (⟨b, off, none⟩ : Addr).add i = ⟨b, off + i, none⟩ := by unfold Addr.add; split <;> simp_all
    have hc1 := hcell i (by omega)
    rw [hadd] at hc1
    refine ⟨b, off, rfl, hc1, ?_⟩
    refine hws _ ?_
    show zs.getD i 0 ∈ zs
    rw [List.getD_eq_getElem?_getD, List.getElem?_eq_getElem (by omega)]
    exact List.getElem_mem _

/-- Its own blocks, and no others. -/
theorem WT.tight {base : Nat} {w : World} {b now : Nat} {l : List ItemN} {O : Nat → Prop} (h : WT base w b now l O) : ∃ O2, WT base w b now l O2 ∧ ∀ k, O2 k → O k ∧ k < w.heap.size := by
  obtain ⟨m, V, F, L, t, hS, tm, tok, o1, o2⟩ := h.ex
  have hlt : ∀ k, OwnW b V m k → O k ∧ k < w.heap.size := fun k hk => by
    rcases hk with e | e
    · exact ⟨o1 k e, (hS.wh.own_low e).2⟩
    · refine ⟨o2 k e, ?_⟩
      rcases tm with ⟨e2, _⟩ | ⟨mb, e2, _, im⟩
      · rw [e] at e2; cases e2
      · rw [e] at e2
        injection e2 with e2
        injection e2 with e2
        subst e2
        exact im.lt
  exact ⟨OwnW b V m, ⟨⟨m, V, F, L, t, hS, tm, tok, fun k hk => .inl hk, fun mb e => .inr e⟩, h.bru, fun k hk => h.low k (hlt k hk).1, h.pos, h.top⟩, hlt⟩

/-- Two wheels beside each other. -/
structure Two (base : Nat) (w : World) (b1 b2 n1 n2 : Nat) (l1 l2 : List ItemN) (O1 O2 : Nat → Prop) : Prop where
  one : WT base w b1 n1 l1 O1
  two : WT base w b2 n2 l2 O2
  lt1 : ∀ k, O1 k → k < w.heap.size
  lt2 : ∀ k, O2 k → k < w.heap.size
  apart : ∀ k, O1 k → ¬ O2 k
theorem Two.swap {base : Nat} {w : World} {b1 b2 n1 n2 : Nat} {l1 l2 : List ItemN} {O1 O2 : Nat → Prop} (h : Two base w b1 b2 n1 n2 l1 l2 O1 O2) : Two base w b2 b1 n2 n1 l2 l1 O2 O1 := ⟨h.two, h.one, h.lt2, h.lt1, fun k h2 h1 => h.apart k h1 h2⟩
theorem Two.below {base : Nat} {w w' : World} {b1 b2 n1 n2 : Nat} {l1 l2 : List ItemN} {O1 O2 : Nat → Prop} (h : Two base w b1 b2 n1 n2 l1 l2 O1 O2) (k : Below w.heap.size w w') : Two base w' b1 b2 n1 n2 l1 l2 O1 O2 :=
  ⟨h.one.below k, h.two.below k, fun x hx => Nat.lt_of_lt_of_le (h.lt1 x hx) k.size, fun x hx => Nat.lt_of_lt_of_le (h.lt2 x hx) k.size, h.apart⟩
/-- A call on the first of them. -/
theorem Two.step {base : Nat} {w w' : World} {b1 b2 n1 n2 n : Nat} {l1 l2 l : List ItemN} {O1 O2 O' : Nat → Prop} (h : Two base w b1 b2 n1 n2 l1 l2 O1 O2) (a : After base w O1 w' b1 n l O') : ∃ O3, Two base w' b1 b2 n n2 l l2 O3 O2 ∧ ∀ k, O3 k → O' k := by
  obtain ⟨O3, h3, h4⟩ := a.wt.tight
  refine ⟨O3, ⟨h3, h.two.kept a.kp (fun x hx => ⟨h.apart x hx, Nat.lt_of_lt_of_le h.one.pos (h.one.low x hx)⟩), fun k hk => (h4 k hk).2, fun k hk => Nat.lt_of_lt_of_le (h.lt2 k hk) a.kp.size, fun k hk hk2 => ?_⟩, fun k hk => (h4 k hk).1⟩
  rcases a.own k (h4 k hk).1 with e | e
  · exact h.apart k e hk2
  · have := h.lt2 k hk2; omega
theorem Two.kept {base : Nat} {w w' : World} {b1 b2 n1 n2 : Nat} {l1 l2 : List ItemN} {O1 O2 O : Nat → Prop} (h : Two base w b1 b2 n1 n2 l1 l2 O1 O2) (k : Kp O w w') (ho : ∀ x, O x → ¬ O1 x ∧ ¬ O2 x ∧ 0 < x) : Two base w' b1 b2 n1 n2 l1 l2 O1 O2 :=
  ⟨h.one.kept k (fun x hx => ⟨(ho x hx).1, (ho x hx).2.2⟩), h.two.kept k (fun x hx => ⟨(ho x hx).2.1, (ho x hx).2.2⟩), fun x hx => Nat.lt_of_lt_of_le (h.lt1 x hx) k.size, fun x hx => Nat.lt_of_lt_of_le (h.lt2 x hx) k.size, h.apart⟩
theorem WT.up {base : Nat} {w : World} {b now : Nat} {l : List ItemN} {O : Nat → Prop} (h : WT base w b now l O) : Up l ∧ l.length ≤ 50000 := by
  obtain ⟨m, V, F, L, t, hS, tm, tok, o1, o2⟩ := h.ex
  exact ⟨hS.ok.up, hS.len⟩
theorem comeBy_join {l : List ItemN} (h : Up l) {a b c : Nat} (hab : a ≤ b) (hbc : b ≤ c) : comeBy l a c = comeBy l a b ++ comeBy l b c := by
  unfold comeBy
  refine Up.eq (h.filter _) (List.pairwise_append.2 ⟨h.filter _, h.filter _, fun p hp q hq => ?_⟩) fun p => ?_
  · have h1 := (List.mem_filter.1 hp).2
    have h2 := (List.mem_filter.1 hq).2
    simp at h1 h2
    rw [ltB_iff]; omega
  · rw [List.mem_append, List.mem_filter, List.mem_filter, List.mem_filter]
    simp
    constructor
    · rintro ⟨h1, h2, h3⟩
      by_cases h4 : p.1 ≤ b
      · exact .inl ⟨h1, h2, h4⟩
      · exact .inr ⟨h1, by omega, h3⟩
    · rintro (⟨h1, h2, h3⟩ | ⟨h1, h2, h3⟩)
      · exact ⟨h1, h2, by omega⟩
      · exact ⟨h1, by omega, h3⟩
/-- One list behind another. -/
theorem append_rows (B B2 : Nat) (v u : Value) (l l2 : List ItemN) (w : World) (hr : Rw B w v l) (hu : Rw B2 w u l2) (hB : B ≤ w.heap.size) (hl : l.length ≤ 100000) (hl2 : l2.length ≤ 100000) :
    ∃ v' w', (Builtin.append_ #[39, 39] 39 #[v, u]).run Tryd.prog w = .ok v' w' ∧ Rw B w' v' (l ++ l2) ∧ w.grownBy w' v.ownBlock := by
  obtain ⟨i0, hi0, hz0, hzs, hzb⟩ := info_parts info52
  rcases hu.form with ⟨rfl, rfl⟩ | ⟨g, cap, rfl, _, _⟩
  · refine ⟨v, w, run_append_owned_none w B 39 39 52 i0 2 Tryd.underlying39 hi0 v l.length (flat l) hr, by rw [List.append_nil]; exact hr, ⟨rfl, rfl, rfl, Nat.le_refl _, fun _ _ _ => rfl⟩⟩
  · obtain ⟨v', w', h1, h2, h3, h4⟩ := run_append_own w B 39 39 52 i0 _ 2 16 Tryd.underlying39 hi0 hz0 hzs hzb rfl (by omega) v l.length (flat l) hr ⟨g, 0, none⟩ l2.length cap (flat l2) (flat_len l2) (by
      have := flat_of_row hu 0 (Nat.zero_le _)
      simpa using this) (flat_one l2) (by unfold maxLen; omega) (by omega) hB
    exact ⟨v', w', h1, by unfold Rw; rw [List.length_append, flat_app]; exact h2, h3⟩
end Go.Proofs.YthobffeafddonaaDoor
