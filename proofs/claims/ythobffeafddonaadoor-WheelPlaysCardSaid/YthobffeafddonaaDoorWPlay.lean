/-
  Layer 6: the program's wheel and the document's beside each other, a call of the script in a variable of its own, and what the law's calls do to them.
-/
import Derived.Test.YthobffeafddonaaDoorWRefE
import Derived.Test.YthobffeafddonaaDoorWOld
import Derived.Test.YthobffeafddonaaDoorWFull
import Derived.Test.YthobffeafddonaaDoorWNext
import Derived.Deep.SlicePairs
set_option linter.unusedVariables false
namespace Go.Proofs.YthobffeafddonaaDoor
open Go.ChangeShapes Go.WideShapes Go.ChangeAt Go.RowKit Whl Go.Deep
set_option maxRecDepth 100000

/-- Both wheels, and the variable that holds the call. -/
structure BQ (base : Nat) (w0 w : World) (b r q T1 : Nat) (l1 : List ItemN) (T2 : Nat) (l2 : List ItemN) (O : Nat → Prop) (p : Option Addr) (cap : Nat) (k i a : Int) : Prop where
  wt : WT base w b T1 l1 O
  rv : Rv base w r T2 l2 p cap
  lt : ∀ x, O x → x < w.heap.size
  nr : ¬ O r
  ng : ∀ g, (Value.slice p 0 0).ownBlock = some g → ¬ O g
  blk : w.heap[q]? = some (.cells #[.int .i64 k, .int .i64 i, .int .i64 a] 29 (0, 0))
  nq : ¬ O q
  bel : Below base w0 w
  hb : base ≤ w0.heap.size

theorem heap_lti {w : World} {b : Nat} {o : Obj} (h : w.heap[b]? = some o) : b < w.heap.size := by
  rcases Nat.lt_or_ge b w.heap.size with h2 | h2
  · exact h2
  · rw [Array.getElem?_eq_none h2] at h; cases h
section
variable {base : Nat} {w0 w w' : World} {b r q T1 T2 : Nat} {l1 l2 : List ItemN} {O : Nat → Prop} {p : Option Addr} {cap : Nat} {k i a : Int}
theorem BQ.c0 (h : BQ base w0 w b r q T1 l1 T2 l2 O p cap k i a) : w.cell? ⟨q, 0, none⟩ = some (.int .i64 k) := by rw [cell_of_row w q 0 _ _ _ h.blk]; rfl
theorem BQ.c1 (h : BQ base w0 w b r q T1 l1 T2 l2 O p cap k i a) : w.cell? ⟨q, 1, none⟩ = some (.int .i64 i) := by rw [cell_of_row w q 1 _ _ _ h.blk]; rfl
theorem BQ.c2 (h : BQ base w0 w b r q T1 l1 T2 l2 O p cap k i a) : w.cell? ⟨q, 2, none⟩ = some (.int .i64 a) := by rw [cell_of_row w q 2 _ _ _ h.blk]; rfl
theorem own_p {n : Nat} {g : Nat} (h : (Value.slice p n cap).ownBlock = some g) : (Value.slice p 0 0).ownBlock = some g := (own_eq p n cap).symm.trans h
theorem BQ.below (h : BQ base w0 w b r q T1 l1 T2 l2 O p cap k i a) (z : Below w.heap.size w w') : BQ base w0 w' b r q T1 l1 T2 l2 O p cap k i a :=
  ⟨h.wt.below z, h.rv.below z, fun x hx => Nat.lt_of_lt_of_le (h.lt x hx) z.size, h.nr, h.ng, (z.block q (heap_lti h.blk)).trans h.blk, h.nq, h.bel.trans (z.mono (Nat.le_trans h.hb h.bel.size)), h.hb⟩
theorem BQ.prog {T : Nat} {l : List ItemN} {O' : Nat → Prop} (h : BQ base w0 w b r q T1 l1 T2 l2 O p cap k i a) (A : After base w O w' b T l O') : ∃ O3, BQ base w0 w' b r q T l T2 l2 O3 p cap k i a ∧ ∀ x, O3 x → O' x := by
  obtain ⟨O3, h3, h4⟩ := A.wt.tight
  have old : ∀ x, x < w.heap.size → ¬ O x → ¬ O3 x := fun x hx hn h5 => by
    rcases A.own x (h4 x h5).1 with e | e
    · exact hn e
    · omega
  have hql := heap_lti h.blk
  have hgl : ∀ g, (Value.slice p 0 0).ownBlock = some g → g < w.heap.size := fun g hg => (h.rv.own.lt g ((own_eq _ _ _).trans hg)).2
  refine ⟨O3, ⟨h3, h.rv.same (A.kp.block r h.rv.lt h.nr) (fun g hg => A.kp.block g (hgl g (own_p hg)) (h.ng g (own_p hg))), fun x hx => (h4 x hx).2, old r h.rv.lt h.nr, fun g hg => old g (hgl g hg) (h.ng g hg), (A.kp.block q hql h.nq).trans h.blk, old q hql h.nq,
    ⟨A.kp.os.trans h.bel.os, A.kp.tape.trans h.bel.tape, A.kp.output.trans h.bel.output, Nat.le_trans h.bel.size A.kp.size, fun x hx => (A.kp.block x (by have := h.bel.size; have := h.hb; omega) (fun e => by have := h.wt.low x e; omega)).trans (h.bel.block x hx)⟩, h.hb⟩, fun x hx => (h4 x hx).1⟩
theorem BQ.doc {T : Nat} {l : List ItemN} {p' : Option Addr} {cap' : Nat} (h : BQ base w0 w b r q T1 l1 T2 l2 O p cap k i a) (rv : Rv base w' r T l p' cap') (kp : Kp (fun x => x = r) w w') (hf : Fresh w.heap.size p' ∨ p' = p) : BQ base w0 w' b r q T1 l1 T l O p' cap' k i a := by
  have hrq : q ≠ r := type_nei h.blk h.rv.blk (by decide)
  refine ⟨h.wt.kept kp (fun x hx => ⟨by rw [hx]; exact h.nr, by rw [hx]; exact Nat.lt_of_lt_of_le h.wt.pos h.rv.hb⟩), rv, fun x hx => Nat.lt_of_lt_of_le (h.lt x hx) kp.size, h.nr, fun g hg => ?_, (kp.block q (heap_lti h.blk) hrq).trans h.blk, h.nq,
    ⟨kp.os.trans h.bel.os, kp.tape.trans h.bel.tape, kp.output.trans h.bel.output, Nat.le_trans h.bel.size kp.size, fun x hx => (kp.block x (by have := h.bel.size; have := h.hb; omega) (fun e => by have := h.rv.hb; omega)).trans (h.bel.block x hx)⟩, h.hb⟩
  rcases hf with e | e
  · exact fun h2 => by have := h.lt g h2; have := e g hg; omega
  · subst e; exact h.ng g hg
end

/-- Ids are there once. -/
theorem WT.ids {base : Nat} {w : World} {b now : Nat} {l : List ItemN} {O : Nat → Prop} (h : WT base w b now l O) : (∀ x ∈ l, ∀ y ∈ l, x.2 = y.2 → x = y) ∧ ∀ x ∈ l, x.2 ≤ 1048576 := by
  obtain ⟨m, V, F, L, t, hS, tm, tok, o1, o2⟩ := h.ex
  refine ⟨fun x hx y hy e => ?_, fun x hx => tok.small _ (tok.there hx)⟩
  have h1 := tok.there (a := x.1) (id := x.2) hx
  have h2 := tok.there (a := y.1) (id := y.2) hy
  obtain ⟨i, hi, ei⟩ := List.mem_iff_getElem.1 h1
  obtain ⟨j, hj, ej⟩ := List.mem_iff_getElem.1 h2
  rcases Nat.lt_trichotomy i j with g | g | g
  · exact absurd (by rw [ei, ej]; exact e) (List.pairwise_iff_getElem.1 tok.keys i j hi hj g)
  · subst g
    rw [ei] at ej
    injection ej with e1 e2
    exact Prod.ext e2 e1
  · exact absurd (by rw [ei, ej]; exact e.symm) (List.pairwise_iff_getElem.1 tok.keys j i hj hi g)

/-- An id is there nowhere, or at one place. -/
theorem id_case {l : List ItemN} (hd : ∀ x ∈ l, ∀ y ∈ l, x.2 = y.2 → x = y) (hu : Up l) (id : Int) : (∀ x ∈ l, (x.2 : Int) ≠ id) ∨ ∃ i, ∃ hi : i < l.length, (l[i].2 : Int) = id ∧ (∀ j (hj : j < i), ((l[j]'(by omega)).2 : Int) ≠ id) ∧ l.take i ++ l.drop (i + 1) = l.filter (· != l[i]) := by
  by_cases h : ∃ x ∈ l, (x.2 : Int) = id
  · obtain ⟨x, hx, e⟩ := h
    obtain ⟨i, hi, rfl⟩ := List.mem_iff_getElem.1 hx
    have hnd := hu.nodup
    refine Or.inr ⟨i, hi, e, fun j hj e2 => ?_, ?_⟩
    · have := hd _ (List.getElem_mem (show j < l.length by omega)) _ hx (by omega)
      exact absurd this (List.pairwise_iff_getElem.1 hnd j i (by omega) hi hj)
    · rw [← List.eraseIdx_eq_take_drop_succ, ← hnd.erase_eq_filter, List.erase_eq_eraseIdx_of_idxOf rfl, hnd.idxOf_getElem]
  · exact Or.inl fun x hx e => h ⟨x, hx, e⟩

theorem After.self {base : Nat} {w : World} {b now : Nat} {l : List ItemN} {O : Nat → Prop} (h : WT base w b now l O) : After base w O w b now l O := ⟨h, ⟨rfl, rfl, rfl, Nat.le_refl _, fun _ _ _ => rfl⟩, fun _ hk => Or.inl hk⟩

/-- Set on both: the same answer, the same list. -/
theorem set_both (l : List ItemN) (T : Nat) (id a : Int) (hd : ∀ x ∈ l, ∀ y ∈ l, x.2 = y.2 → x = y) (hs : ∀ x ∈ l, x.2 ≤ 1048576) (hu : Up l) (hl : l.length ≤ 1000) :
    ∃ (z : Nat) (l' : List ItemN), (∀ (base : Nat) (w : World) (b : Nat) (O : Nat → Prop), WT base w b T l O → Calls Tryd.prog 11 #[.pointer (some ⟨b, 0, none⟩), .int .i64 id, .int .i64 a] w fun e w' => e = .returned (.int .i64 (z : Int)) ∧ ∃ O', After base w O w' b T l' O') ∧
      (∀ (base : Nat) (w : World) (r : Nat) (p : Option Addr) (cap : Nat), Rv base w r T l p cap → Calls Tryd.prog 12 #[.pointer (some ⟨r, 0, none⟩), .int .i64 id, .int .i64 a] w fun e w' => e = .returned (.int .i64 (z : Int)) ∧ ∃ p' cap', Rv base w' r T l' p' cap' ∧ Kp (fun x => x = r) w w' ∧ (Fresh w.heap.size p' ∨ p' = p)) := by
  have same : ∀ (w : World) (r : Nat), Kp (fun x => x = r) w w := fun w r => ⟨rfl, rfl, rfl, Nat.le_refl _, fun _ _ _ => rfl⟩
  by_cases hr : id < 0 ∨ 1048576 < id ∨ a < 0 ∨ 1099511627776 < a
  · refine ⟨1, l, fun base w b O h => (set_refused b id a w hr).mono fun e w' ⟨he, hw⟩ => ⟨he, O, by subst hw; exact After.self h⟩, fun base w r p cap t => (refSet_arg r id a w hr).mono fun e w' ⟨he, hw⟩ => ⟨he, p, cap, by subst hw; exact ⟨t, same w r, Or.inr rfl⟩⟩⟩
  · obtain ⟨i, rfl⟩ : ∃ i : Nat, id = (i : Int) := ⟨id.toNat, by omega⟩
    obtain ⟨c, rfl⟩ : ∃ c : Nat, a = (c : Int) := ⟨a.toNat, by omega⟩
    have hi : i ≤ 1048576 := by omega
    have hc : c ≤ 1099511627776 := by omega
    rcases id_case hd hu (i : Int) with hn | ⟨j, hj, ej, hn, hf⟩
    · have hn2 : ∀ x, x ∈ l → x.2 ≠ i := fun x hx e => hn x hx (by omega)
      by_cases hfull : 1000 ≤ l.length
      · refine ⟨5, l, fun base w b O h => (set_full base w b T l O i c h hn2 hi hc hfull).mono fun e w' ⟨he, hw⟩ => ⟨he, O, by subst hw; exact After.self h⟩, fun base w r p cap t => (refSet_full base w r T l p cap i c t hn2 hi hc hfull).mono fun e w' ⟨he, hw⟩ => ⟨he, p, cap, by subst hw; exact ⟨t, same w r, Or.inr rfl⟩⟩⟩
      · refine ⟨0, ins (c, i) l, fun base w b O h => set_new base w b T l O i c h hn2 hi hc (by omega), fun base w r p cap t => ?_⟩
        refine (refSet_ok base w r T l l p cap i c (-1) t hi hc (Or.inl ⟨by omega, by omega⟩) (find_any base w r T l p cap i t l.length (Nat.le_refl _) (fun k hk => hn _ (List.getElem_mem hk)) (fun h => by omega) (-1) (by simp))
          ((refRem_none base w r T l p cap i t hn).mono fun e w' ⟨he, hw⟩ => ⟨false, he, by subst hw; exact ⟨⟨p, cap, t⟩, same w r⟩⟩) hu (by omega)).mono fun e w' ⟨he, ⟨p', cap', t', fr⟩, kp⟩ => ⟨he, p', cap', t', kp, Or.inl fr⟩
    · have hmem : ((l[j]).1, i) ∈ l := by
        have : l[j] = ((l[j]).1, i) := Prod.ext rfl (by show (l[j]).2 = i; omega)
        rw [← this]; exact List.getElem_mem hj
      have hx : l[j] = ((l[j]).1, i) := Prod.ext rfl (by show (l[j]).2 = i; omega)
      refine ⟨0, ins (c, i) (l.filter (· != ((l[j]).1, i))), fun base w b O h => set_old base w b T l O _ i c h hmem hi hc hl, fun base w r p cap t => ?_⟩
      rw [← hx, ← hf]
      have hll : (l.take j ++ l.drop (j + 1)).length < 1000 := by simp; omega
      refine (refSet_ok base w r T l _ p cap i c (j : Int) t hi hc (Or.inr (by omega)) (find_any base w r T l p cap i t j (by omega) hn (fun _ => ej) (j : Int) (by rw [if_pos hj]))
        ((refRem_some base w r T l p cap i t j hj hn ej).mono fun e w' ⟨he, ⟨p', cap', t', fr⟩, kp⟩ => ⟨true, he, ⟨p', cap', t'⟩, kp⟩) (by rw [hf]; exact hu.filter _) hll).mono fun e w' ⟨he, ⟨p', cap', t', fr⟩, kp⟩ => ⟨he, p', cap', t', kp, Or.inl fr⟩

/-- Remove on both. -/
theorem rem_both (l : List ItemN) (T : Nat) (id : Int) (h1 : -9223372036854775808 ≤ id) (h2 : id ≤ 9223372036854775807) (hd : ∀ x ∈ l, ∀ y ∈ l, x.2 = y.2 → x = y) (hu : Up l) :
    ∃ (z : Bool) (l' : List ItemN), (∀ (base : Nat) (w : World) (b : Nat) (O : Nat → Prop), WT base w b T l O → Calls Tryd.prog 13 #[.pointer (some ⟨b, 0, none⟩), .int .i64 id] w fun e w' => e = .returned (.bool z) ∧ ∃ O', After base w O w' b T l' O') ∧
      (∀ (base : Nat) (w : World) (r : Nat) (p : Option Addr) (cap : Nat), Rv base w r T l p cap → Calls Tryd.prog 14 #[.pointer (some ⟨r, 0, none⟩), .int .i64 id] w fun e w' => e = .returned (.bool z) ∧ ∃ p' cap', Rv base w' r T l' p' cap' ∧ Kp (fun x => x = r) w w' ∧ (Fresh w.heap.size p' ∨ p' = p)) := by
  have same : ∀ (w : World) (r : Nat), Kp (fun x => x = r) w w := fun w r => ⟨rfl, rfl, rfl, Nat.le_refl _, fun _ _ _ => rfl⟩
  rcases id_case hd hu id with hn | ⟨j, hj, ej, hn, hf⟩
  · refine ⟨false, l, fun base w b O h => (rem_none base w b T l O id h1 h2 h (fun p hp => hn p hp)).mono fun e w' ⟨he, hw⟩ => ⟨he, O, by subst hw; exact After.self h⟩, fun base w r p cap t => (refRem_none base w r T l p cap id t hn).mono fun e w' ⟨he, hw⟩ => ⟨he, p, cap, by subst hw; exact ⟨t, same w r, Or.inr rfl⟩⟩⟩
  · subst ej
    refine ⟨true, l.filter (· != l[j]), fun base w b O h => rem_some base w b T l O (l[j]).1 (l[j]).2 h (List.getElem_mem hj), fun base w r p cap t => ?_⟩
    rw [← hf]
    exact (refRem_some base w r T l p cap _ t j hj hn rfl).mono fun e w' ⟨he, ⟨p', cap', t', fr⟩, kp⟩ => ⟨he, p', cap', t', kp, Or.inl fr⟩
end Go.Proofs.YthobffeafddonaaDoor
