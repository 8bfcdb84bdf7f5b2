/-
  Layer 6: a new wheel.
-/
import Derived.Test.YthobffeafddonaaDoorWTimes
import Derived.Lib.MinMax
set_option linter.unusedVariables false
namespace Go.Proofs.YthobffeafddonaaDoor
open Go.RowKit Whl

def isNil : Option Value → Bool
  | some (.slice none 0 0) => true
  | _ => false
def isU0 : Option Value → Bool
  | some (.int .u64 0) => true
  | _ => false
def isM0 : Option Value → Bool
  | some (.map none) => true
  | _ => false
theorem isNil_eq {v : Option Value} (h : isNil v = true) : v = some (.slice none 0 0) := by
  unfold isNil at h
  split at h
  · rfl
  · cases h
theorem isU0_eq {v : Option Value} (h : isU0 v = true) : v = some (.int .u64 0) := by
  unfold isU0 at h
  split at h
  · rfl
  · cases h
theorem isM0_eq {v : Option Value} (h : isM0 v = true) : v = some (.map none) := by
  unfold isM0 at h
  split at h
  · rfl
  · cases h
/-- What a new wheel's cells hold, as it is reckoned off the program's own table of types. -/
def zchk : Option TypeInfo → Bool
  | some i => match i.zero with
    | some (.agg cs) => cs.size == 394 && (isM0 cs[1]? && (isNil cs[2]? && (isNil cs[393]? && ((List.range 6).all (fun i => isU0 cs[3 + i * 65]?) && (List.range 6).all (fun i => (List.range 64).all fun s => isNil cs[4 + 65 * i + s]?)))))
    | _ => false
  | none => false
theorem zchk63 : zchk (Tryd.prog.info? 63) = true := by kernel_rfl
theorem zero63 : ∃ Z : Array Value, (∀ W, (zeroValue 63).run Tryd.prog W = .ok (.agg Z) W) ∧ Z.size = 394 ∧ (∀ c, IsL c → Z[c]? = some (.slice none 0 0)) ∧ (∀ i, i < 6 → Z[3 + i * 65]? = some (.int .u64 0)) ∧ Z[1]? = some (.map none) := by
  have h := zchk63
  unfold zchk at h
  cases hi : Tryd.prog.info? 63 with
  | none => rw [hi] at h; cases h
  | some i =>
    rw [hi] at h
    simp only at h
    split at h
    · next cs hz =>
      simp only [Bool.and_eq_true, beq_iff_eq, List.all_eq_true, List.mem_range] at h
      obtain ⟨h1, h2, h3, h4, h5, h6⟩ := h
      refine ⟨cs, fun W => ?_, h1, fun c hc => ?_, fun i hi => isU0_eq (h5 i hi), isM0_eq h2⟩
      · simp [zeroValue, typeInfo, hi, hz]
      · rcases hc with e | e | ⟨i, s, e1, e2, e3⟩
        · subst e; exact isNil_eq h3
        · subst e; exact isNil_eq h4
        · subst e3; exact isNil_eq (h6 i e1 s e2)
    · cases h

/-- A wheel of nobody. -/
theorem WT.new (w : World) (base : Nat) (n0 : Nat) (hn : n0 ≤ 1099511627776) (hb : base ≤ w.heap.size) (hpos : 0 < base) (tb : Bru w) (Z : Array Value) (hs : Z.size = 394) (hL : ∀ c, IsL c → Z[c]? = some (.slice none 0 0)) (hF : ∀ i, i < 6 → Z[3 + i * 65]? = some (.int .u64 0)) (hM : Z[1]? = some (.map none)) :
    WT base (w.alloc (.cells (Z.setIfInBounds 0 (.int .i64 (n0 : Int))) 63)) w.heap.size n0 [] (fun k => k = w.heap.size) := by
  have e := Go.heap_alloc_new w (.cells (Z.setIfInBounds 0 (.int .i64 (n0 : Int))) 63)
  have hc : ∀ d, (w.alloc (.cells (Z.setIfInBounds 0 (.int .i64 (n0 : Int))) 63)).cell? ⟨w.heap.size, d, none⟩ = (Z.setIfInBounds 0 (.int .i64 (n0 : Int)))[d]? := fun d => cell_of_row _ _ d _ _ _ e
  have hcz : ∀ d, 0 < d → (Z.setIfInBounds 0 (.int .i64 (n0 : Int)))[d]? = Z[d]? := fun d hd => by
    rw [Array.getElem?_setIfInBounds_ne (by omega)]
  refine ⟨⟨.map none, fun _ => .slice none 0 0, fun _ => 0, fun _ => [], [], ⟨⟨hb, by simp, fun d => frozen_of_row _ _ d _ _ e, ?_, ?_, fun c hcl => ?_, fun i hi => ?_, fun c _ => Rw.nil _ _, fun c d _ _ _ k hk => by simp [Value.ownBlock] at hk, fun c _ => by simp [Value.ownBlock]⟩, fun i hi => ⟨by omega, fun s hs => by simp⟩, ⟨List.Pairwise.nil, rfl, fun c _ => List.Perm.refl _⟩, fun p hp => by simp at hp, by simp⟩, .inl ⟨rfl, rfl⟩, ⟨List.Perm.refl _, List.Pairwise.nil, fun p hp => by simp at hp⟩, fun k hk => ?_, fun mb hmb => by cases hmb⟩, ?_, fun k hk => by omega, hpos, hn⟩
  · rw [hc, Array.getElem?_setIfInBounds_self_of_lt (by omega)]
  · rw [hc, hcz 1 (by omega)]; exact hM
  · rw [hc, hcz c (by have := isL_big hcl; omega)]; exact hL c hcl
  · rw [hc, hcz _ (by omega)]; exact hF i hi
  · rcases hk with e | ⟨c, _, e⟩
    · exact e
    · simp [Value.ownBlock] at e
  · intro j hj
    have h := tb j hj
    exact (World.cell?_of_block (w := w) (a := ⟨0, j, none⟩) (Go.heap_alloc_old w _ (World.block_lt_of_cell? w _ h))).trans h

set_option maxHeartbeats 4000000 in
set_option maxRecDepth 1000000 in
theorem new_any (base : Nat) (w : World) (n : Int) (n0 : Nat) (hn : min (max n 0) 1099511627776 = (n0 : Int)) (hb : base ≤ w.heap.size) (hpos : 0 < base) (tb : Bru w) :
    Calls Tryd.prog 9 #[.int .i64 n] w fun e w' => e = .returned (.pointer (some ⟨w.heap.size, 0, none⟩)) ∧ WT base w' w.heap.size n0 [] (fun k => k = w.heap.size) ∧ Below w.heap.size w w' := by
  obtain ⟨Z, hZ, hs, hL, hF, hM⟩ := zero63
  have hw := Lib.hid (WT.new w base n0 (by omega) hb hpos tb Z hs hL hF hM)
  have hne : ¬ Z = #[] := fun e => by rw [e] at hs; simp at hs
  have hs2 : (Z.setIfInBounds 0 (.int .i64 (n0 : Int))).size = 394 := by simp [hs]
  clear hL hF hM tb hb hs
  go_enter Tryd.func9, Tryd.ntmps9
  go_wp2_with (simp only [hn])
  go_ret
  exact ⟨rfl, hw.out, (Below.refl _ _).alloc (Nat.le_refl _) _⟩
end Go.Proofs.YthobffeafddonaaDoor
