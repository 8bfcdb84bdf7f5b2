/-
  The walk of CivilOrder: both dates' arrays, and how they stand.
-/
import Derived.Test.YtehjmlpglhapbaaDoorRefDate
import Derived.Test.YtehjmlpglhapbaaDoorThree
namespace Go.Proofs.YtehjmlpglhapbaaDoor
open Go.RowKit Civ

set_option maxRecDepth 100000 in
set_option maxHeartbeats 400000 in
/-- One of the two is no date. -/
theorem order_none (a0 a1 a2 b0 b1 b2 m e n f : Int) (w : World) (h : e = 2 ∨ e = 0 ∧ f = 2)
    (ca : ∀ c d, Hid (Calls Tryd.prog 11 #[] ((w.alloc (.cells c 36)).alloc (.cells d 36)) fun r w' => r = .returned (.bool true) ∧ ((w.alloc (.cells c 36)).alloc (.cells d 36)) = w'))
    (c1 : ∀ c d, Hid (Calls Tryd.prog 9 #[.int .i64 a0, .int .i64 a1, .int .i64 a2] ((w.alloc (.cells c 36)).alloc (.cells d 36)) fun r w' => r = .returned (.tuple #[.int .i64 m, .int .i64 e]) ∧ ((w.alloc (.cells c 36)).alloc (.cells d 36)) = w'))
    (c2 : ∀ c d, Hid (Calls Tryd.prog 9 #[.int .i64 b0, .int .i64 b1, .int .i64 b2] ((w.alloc (.cells c 36)).alloc (.cells d 36)) fun r w' => r = .returned (.tuple #[.int .i64 n, .int .i64 f]) ∧ ((w.alloc (.cells c 36)).alloc (.cells d 36)) = w')) :
    Calls Tryd.prog 6 #[.agg #[.int .i64 a0, .int .i64 a1, .int .i64 a2], .agg #[.int .i64 b0, .int .i64 b1, .int .i64 b2]] w fun e w' => e = .returned (.bool true) ∧ Grown w w' := by
  have Ca := Lib.hid ca
  have C1 := Lib.hid c1
  have C2 := Lib.hid c2
  clear ca c1 c2
  rcases h with rfl | ⟨rfl, rfl⟩
  all_goals
    go_enter Tryd.func6, Tryd.ntmps6
    go_wp2_with fail
    refine (C1.out _ _).out.mono ?_
    rintro e w' ⟨rfl, rfl⟩
    go_wp2_with fail
    refine (C2.out _ _).out.mono ?_
    rintro e w' ⟨rfl, rfl⟩
    go_wp2_with fail
    refine (Ca.out _ _).out.mono ?_
    rintro e w' ⟨rfl, rfl⟩
    go_wp2_with fail
    refine (Ca.out _ _).out.mono ?_
    rintro e w' ⟨rfl, rfl⟩
    go_wp2_with fail
    go_ret
    exact ⟨rfl, ((Grown.refl _).alloc _ _).alloc _ _⟩

/-- How two dates stand, and their days. -/
def Stand (a0 a1 a2 b0 b1 b2 m n : Nat) : Prop :=
  (a0 < b0 ∧ m < n) ∨ (b0 < a0 ∧ n < m) ∨ (a0 = b0 ∧ a1 < b1 ∧ m < n) ∨ (a0 = b0 ∧ b1 < a1 ∧ n < m) ∨ (a0 = b0 ∧ a1 = b1 ∧ a2 < b2 ∧ m < n) ∨ (a0 = b0 ∧ a1 = b1 ∧ b2 < a2 ∧ n < m) ∨ (a0 = b0 ∧ a1 = b1 ∧ a2 = b2 ∧ m = n)

set_option maxRecDepth 100000 in
set_option maxHeartbeats 1600000 in
theorem order_some (a0 a1 a2 b0 b1 b2 m n : Nat) (w : World) (h : Stand a0 a1 a2 b0 b1 b2 m n)
    (ca : ∀ c d, Hid (Calls Tryd.prog 11 #[] ((w.alloc (.cells c 36)).alloc (.cells d 36)) fun r w' => r = .returned (.bool true) ∧ ((w.alloc (.cells c 36)).alloc (.cells d 36)) = w'))
    (c1 : ∀ c d, Hid (Calls Tryd.prog 9 #[.int .i64 a0, .int .i64 a1, .int .i64 a2] ((w.alloc (.cells c 36)).alloc (.cells d 36)) fun r w' => r = .returned (.tuple #[.int .i64 m, .int .i64 0]) ∧ ((w.alloc (.cells c 36)).alloc (.cells d 36)) = w'))
    (c2 : ∀ c d, Hid (Calls Tryd.prog 9 #[.int .i64 b0, .int .i64 b1, .int .i64 b2] ((w.alloc (.cells c 36)).alloc (.cells d 36)) fun r w' => r = .returned (.tuple #[.int .i64 n, .int .i64 0]) ∧ ((w.alloc (.cells c 36)).alloc (.cells d 36)) = w')) :
    Calls Tryd.prog 6 #[.agg #[.int .i64 a0, .int .i64 a1, .int .i64 a2], .agg #[.int .i64 b0, .int .i64 b1, .int .i64 b2]] w fun e w' => e = .returned (.bool true) ∧ Grown w w' := by
  have Ca := Lib.hid ca
  have C1 := Lib.hid c1
  have C2 := Lib.hid c2
  clear ca c1 c2
  rcases h with ⟨h1, h2⟩ | ⟨h1, h2⟩ | ⟨rfl, h1, h2⟩ | ⟨rfl, h1, h2⟩ | ⟨rfl, rfl, h1, h2⟩ | ⟨rfl, rfl, h1, h2⟩ | ⟨rfl, rfl, rfl, rfl⟩
  all_goals
    go_enter Tryd.func6, Tryd.ntmps6
    go_wp2_with fail
    refine (C1.out _ _).out.mono ?_
    rintro e w' ⟨rfl, rfl⟩
    go_wp2_with fail
    refine (C2.out _ _).out.mono ?_
    rintro e w' ⟨rfl, rfl⟩
    go_wp2_with fail
    refine (Ca.out _ _).out.mono ?_
    rintro e w' ⟨rfl, rfl⟩
    have E3 := equal_three
    go_wp2_with fail
    go_ret
    refine ⟨ret_bool ?_, ((Grown.refl _).alloc _ _).alloc _ _⟩
    clear E3 Ca C1 C2
    simp
    try (rw [Bool.eq_iff_iff]; simp <;> omega)

theorem Tab.alloc {w : World} (t : Tab w) (o : Obj) : Tab (w.alloc o) := fun i hi => by
  have h := t i hi
  rw [World.cell?_alloc_lt _ _ _ (World.block_lt_of_cell? w _ h)]
  exact h

theorem stand_of {y k d y' k' d' m n : Nat} (l1 : (y < y' ∨ y = y' ∧ (k < k' ∨ k = k' ∧ d < d')) → m < n) (l2 : (y' < y ∨ y' = y ∧ (k' < k ∨ k' = k ∧ d' < d)) → n < m) (l3 : y = y' → k = k' → d = d' → m = n) : Stand y k d y' k' d' m n := by
  unfold Stand
  rcases Nat.lt_trichotomy y y' with a | a | a
  · exact Or.inl ⟨a, l1 (Or.inl a)⟩
  · rcases Nat.lt_trichotomy k k' with b | b | b
    · exact Or.inr (Or.inr (Or.inl ⟨a, b, l1 (Or.inr ⟨a, Or.inl b⟩)⟩))
    · rcases Nat.lt_trichotomy d d' with c | c | c
      · exact Or.inr (Or.inr (Or.inr (Or.inr (Or.inl ⟨a, b, c, l1 (Or.inr ⟨a, Or.inr ⟨b, c⟩⟩)⟩))))
      · exact Or.inr (Or.inr (Or.inr (Or.inr (Or.inr (Or.inr ⟨a, b, c, l3 a b c⟩)))))
      · exact Or.inr (Or.inr (Or.inr (Or.inr (Or.inr (Or.inl ⟨a, b, c, l2 (Or.inr ⟨a.symm, Or.inr ⟨b.symm, c⟩⟩)⟩)))))
    · exact Or.inr (Or.inr (Or.inr (Or.inl ⟨a, b, l2 (Or.inr ⟨a.symm, Or.inl b⟩)⟩)))
  · exact Or.inr (Or.inl ⟨a, l2 (Or.inl a)⟩)

theorem order_any (a0 a1 a2 b0 b1 b2 : Int) (w : World) (t : Tab w) :
    Calls Tryd.prog 6 #[.agg #[.int .i64 a0, .int .i64 a1, .int .i64 a2], .agg #[.int .i64 b0, .int .i64 b1, .int .i64 b2]] w fun e w' => e = .returned (.bool true) ∧ Grown w w' := by
  have T : ∀ c d, Tab ((w.alloc (.cells c 36)).alloc (.cells d 36)) := fun c d => (t.alloc _).alloc _
  by_cases ha : IsDate a0 a1 a2
  · obtain ⟨m, y, k, d, rfl, rfl, rfl, da⟩ := isDate_day ha
    by_cases hb : IsDate b0 b1 b2
    · obtain ⟨n, y', k', d', rfl, rfl, rfl, db⟩ := isDate_day hb
      have l1 := da.less db
      have l2 := db.less da
      have l3 : y = y' → k = k' → d = d' → m = n := by rintro rfl rfl rfl; exact da.one db
      refine order_some y k d y' k' d' m n w ?_ (fun c d => awake_any _ (T c d)) (fun c d => days_some da _ (T c d)) (fun c d => days_some db _ (T c d))
      exact stand_of l1 l2 l3
    · exact order_none _ _ _ _ _ _ _ _ _ _ w (Or.inr ⟨rfl, rfl⟩) (fun c d => awake_any _ (T c d)) (fun c d => days_some da _ (T c d)) (fun c d => days_none _ _ _ hb _ (T c d))
  · by_cases hb : IsDate b0 b1 b2
    · obtain ⟨n, y', k', d', rfl, rfl, rfl, db⟩ := isDate_day hb
      exact order_none _ _ _ _ _ _ _ _ _ _ w (Or.inl rfl) (fun c d => awake_any _ (T c d)) (fun c d => days_none _ _ _ ha _ (T c d)) (fun c d => days_some db _ (T c d))
    · exact order_none _ _ _ _ _ _ _ _ _ _ w (Or.inl rfl) (fun c d => awake_any _ (T c d)) (fun c d => days_none _ _ _ ha _ (T c d)) (fun c d => days_none _ _ _ hb _ (T c d))
end Go.Proofs.YtehjmlpglhapbaaDoor
