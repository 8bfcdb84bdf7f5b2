/-
  Layer 6: the program's without and copyOf.
-/
import Derived.Test.YthobffeafddonaaDoorWDel
import Derived.Lib.AppendZeros
set_option linter.unusedVariables false
namespace Go.Proofs.YthobffeafddonaaDoor
open Go.RowKit Whl

/-- A list behind a call that was given one: what it holds, that only its own block may have turned, and where it lies. -/
structure Turned (base : Nat) (w : World) (v : Value) (w' : World) (v' : Value) (l' : List ItemN) : Prop where
  row : Rw base w' v' l'
  grown : w.grownBy w' v.ownBlock
  own : ∀ k, v'.ownBlock = some k → v.ownBlock = some k ∨ w.heap.size ≤ k
theorem below_grown {w w' : World} (h : Below w.heap.size w w') (r : Option Nat) : w.grownBy w' r := ⟨h.os, h.tape, h.output, h.size, fun k hk _ => h.block k hk⟩

set_option maxRecDepth 100000 in
theorem without_any (base : Nat) (v : Value) (l : List ItemN) (p : ItemN) (w : World) (hr : Rw base w v l) (hp : p ∈ l) (hlen : l.length ≤ 1000000) :
    Calls Tryd.prog 31 #[v, pairV p] w fun e w' => ∃ v', e = .returned v' ∧ Turned base w v w' v' (l.erase p) := by
  have hl : 0 < l.length := List.length_pos_of_mem hp
  rcases hr.form with ⟨_, h0⟩ | ⟨g, cap, rfl, hg1, hg2⟩
  · subst h0; simp at hl
  have hx : l.idxOf p < l.length := List.idxOf_lt_length_of_mem hp
  have he : l.erase p = l.eraseIdx (l.idxOf p) := List.erase_eq_eraseIdx_of_idxOf rfl
  have b1 := Lib.hid ((Below.refl w.heap.size w).alloc (Nat.le_refl _) (.cells #[.int .i64 (p.1 : Int), .int .i64 (p.2 : Int)] 52))
  have R1 := Lib.hid (hr.below b1.out)
  have B1 := Bx.start w p
  obtain ⟨d0, d1⟩ := B1
  have ci := Lib.hid (index_any base _ l p _ R1.out hp hlen)
  have cd := Lib.hid (fun W (h : Rw base W (.slice (some ⟨g, 0, none⟩) l.length cap) l) => delete_any base g cap l (l.idxOf p) W h hx hlen)
  rw [he]
  have hlE : Hid ((l.eraseIdx (l.idxOf p)).length = l.length - 1) := List.length_eraseIdx_of_lt hx
  have hX : (l.idxOf p : Int) < 1000000 := by omega
  clear hp hr he
  generalize l.idxOf p = X at *
  obtain ⟨p0, p1⟩ := p
  unfold pairV at *
  simp only at d0 d1
  go_enter Tryd.func31, Tryd.ntmps31
  go_wp2_with fail
  refine ci.out.mono ?_
  rintro e w2 ⟨rfl, k⟩
  have b2 := Lib.hid (b1.out.trans (k.mono b1.out.size))
  have c2 := Lib.hid (cd.out _ (R1.out.below k))
  clear k ci cd d0 d1 b1 R1
  have hw1 : (((X + 1 : Nat) : Int)) = (X : Int) + 1 := by omega
  rw [hw1] at c2
  clear hw1 hlen
  replace hx := Lib.hid hx
  replace hl := Lib.hid hl
  have hX1 : IntKind.i64.wrap ((X : Int) + 1) = (X : Int) + 1 := by rw [IntKind.wrap_i64]; omega
  clear hX
  go_wp2_with fail
  refine c2.out.mono ?_
  rintro e w3 ⟨rfl, R3, G3⟩
  have G : Hid (w.grownBy w3 (some g)) := (below_grown b2.out (some g)).trans G3
  clear G3 c2
  replace hx := hx.out
  by_cases h1 : l.length = 1
  · have e0 : l.eraseIdx X = [] := List.length_eq_zero_iff.1 (by rw [hlE.out]; omega)
    have hz : l.length - 1 = 0 := by omega
    rw [hz]
    clear h1 hz
    replace R3 := Lib.hid R3
    replace e0 := Lib.hid e0
    go_wp2_with fail
    go_ret
    exact ⟨_, rfl, by rw [e0.out]; exact Rw.nil _ _, G.out, fun k hk => by simp [Value.ownBlock] at hk⟩
  · have hz : (((l.length - 1 : Nat) : Int) == 0) = false := by
      rw [beq_eq_false_iff_ne]
      omega
    rw [hlE.out] at R3
    replace R3 := Lib.hid R3
    generalize hn : l.length - 1 = n at *
    go_wp2_with fail
    go_ret
    exact ⟨_, rfl, R3.out, G.out, fun k hk => .inl hk⟩

set_option maxRecDepth 100000 in
theorem copyOf_any (a : Option Addr) (n c : Nat) (l : List ItemN) (w : World) (hn : l.length = n) (ha : ∀ j u, (flat l)[j]? = some u → ∃ b, a = some b ∧ w.cell? (b.add j) = some u) (hlen : l.length ≤ 1000000) :
    Calls Tryd.prog 28 #[.slice a n c] w fun e w' => ∃ v', e = .returned v' ∧ Rw w.heap.size w' v' l ∧ Below w.heap.size w w' := by
  obtain ⟨i0, hi0, hz0, hzs, hzb⟩ := info_parts info52
  obtain ⟨v', w', hrun, hown, hg⟩ : ∃ v' w', (∀ ty, (Builtin.append_ #[39, 39] ty #[.slice none 0 0, .slice a n c]).run Tryd.prog w = .ok v' w') ∧ Rw w.heap.size w' v' l ∧ w.grownBy w' none := by
    by_cases h0 : n = 0
    · have e : l = [] := List.length_eq_zero_iff.1 (by omega)
      subst h0 e
      refine ⟨.slice none 0 0, w, fun ty => ?_, Rw.nil _ _, ⟨rfl, rfl, rfl, Nat.le_refl _, fun _ _ _ => rfl⟩⟩
      cases a with
      | none => simp [Builtin.append_, run_underlying Tryd.underlying39, sizeOf, typeInfo, hi0, Builtin.lenOf, Builtin.firstCells]
      | some b => simp [Builtin.append_, run_underlying Tryd.underlying39, sizeOf, typeInfo, hi0, Builtin.lenOf, Builtin.firstCells, loadCells, loadCellsFrom]
    · have hpos : 0 < l.length := by omega
      obtain ⟨b, rfl, _⟩ := ha 0 _ (List.getElem?_eq_getElem (by rw [flat_len]; omega))
      have key : ∀ ty, ∃ v' w', (Builtin.append_ #[39, 39] ty #[.slice none 0 0, .slice (some b) n c]).run Tryd.prog w = .ok v' w' ∧ w'.ownsRow w.heap.size 52 2 v' (0 + n) ([] ++ flat l) ∧ w.grownBy w' (Value.slice none 0 0).ownBlock ∧ (v' = .slice none 0 0 ↔ Value.slice none 0 0 = .slice none 0 0 ∧ n = 0) := fun ty =>
        run_append_own w w.heap.size 39 ty 52 i0 _ 2 16 Tryd.underlying39 hi0 hz0 hzs hzb rfl (by omega) (.slice none 0 0) 0 [] (World.ownsRow_nil w _ 52 2) b n c (flat l) (by rw [flat_len, hn]) (fun j u hu => by
          obtain ⟨b', e, hc⟩ := ha j u hu
          injection e with e
          subst e
          exact hc) (flat_one l) (by unfold maxLen; omega) (by omega) (Nat.le_refl _)
      obtain ⟨v', w', h1, h2, h3, _⟩ := key 39
      refine ⟨v', w', fun ty => h1, ?_, h3⟩
      unfold Rw
      rw [hn]
      simpa using h2
  go_enter Tryd.func28, Tryd.ntmps28
  go_wp2_with (at_builtin; refine Lib.wpList_append_run _ rfl _ _ _ _ rfl _ _ rfl rfl _ _ (hrun _) ?_)
  go_ret
  exact ⟨_, rfl, hown, ⟨hg.os, hg.tape, hg.output, hg.size, fun k hk => hg.block k hk (by simp)⟩⟩
end Go.Proofs.YthobffeafddonaaDoor
