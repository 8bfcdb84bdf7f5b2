/-
  The program's parseRange (layer 4): the places that are told one by one.
-/
import Derived.Test.YtiidhcpflplpiaaGreatDoorCTab
import Derived.Laws.ResultCell
set_option linter.unusedVariables false
namespace Go.Proofs.YtiidhcpflplpiaaGreatDoor
open Go.RowKit Crn

/-- The field, and the span that comes back, as they lie while parseRange runs. -/
structure Rng (w wr : World) (lo hi : Nat) (m : Value) (f : Nat) : Prop where
  c0 : wr.cell? ⟨w.heap.size, 0, none⟩ = some (.int .i64 lo)
  c1 : wr.cell? ⟨w.heap.size, 1, none⟩ = some (.int .i64 hi)
  c2 : wr.cell? ⟨w.heap.size, 2, none⟩ = some m
  r0 : wr.cell? ⟨w.heap.size + 1, 0, none⟩ = some (.int .i64 0)
  r1 : wr.cell? ⟨w.heap.size + 1, 1, none⟩ = some (.int .i64 0)
  z0 : wr.frozen? ⟨w.heap.size + 1, 0, none⟩ = false
  z1 : wr.frozen? ⟨w.heap.size + 1, 1, none⟩ = false
  size : w.heap.size + 2 ≤ wr.heap.size
  below : Below w.heap.size w wr
  names : NamesAt wr m f
  tab : Tab wr

theorem Rng.step {w wr w' : World} {lo hi f : Nat} {m : Value} (h : Rng w wr lo hi m f) (k : Below wr.heap.size wr w') : Rng w w' lo hi m f := by
  have s0 : w.heap.size < wr.heap.size := by have := h.size; omega
  have s1 : w.heap.size + 1 < wr.heap.size := by have := h.size; omega
  exact ⟨(k.cell (p := ⟨w.heap.size, 0, none⟩) s0).trans h.c0, (k.cell (p := ⟨w.heap.size, 1, none⟩) s0).trans h.c1, (k.cell (p := ⟨w.heap.size, 2, none⟩) s0).trans h.c2,
    (k.cell (p := ⟨w.heap.size + 1, 0, none⟩) s1).trans h.r0, (k.cell (p := ⟨w.heap.size + 1, 1, none⟩) s1).trans h.r1,
    (k.frozen (p := ⟨w.heap.size + 1, 0, none⟩) s1).trans h.z0, (k.frozen (p := ⟨w.heap.size + 1, 1, none⟩) s1).trans h.z1,
    Nat.le_trans h.size k.size, h.below.trans (k.mono (Nat.le_trans (Nat.le_add_right _ 2) h.size)), h.names.below k (Nat.le_refl _), h.tab.below k⟩

theorem frozen_new (w : World) (cs : Array Value) (t : TypeId) (o : Nat) : (w.alloc (.cells cs t)).frozen? ⟨w.heap.size, o, none⟩ = false := by
  rw [frozen?_alloc_cells]; simp [World.frozen?]

theorem Rng.start (w : World) (lo hi f : Nat) (m : Value) (t : Tab w) (hN : NamesAt w m f) :
    Rng w ((w.alloc (.cells #[.int .i64 lo, .int .i64 hi, m] 182)).alloc (.cells #[.int .i64 0, .int .i64 0] 179)) lo hi m f := by
  have b1 : Below w.heap.size w (w.alloc (.cells #[.int .i64 lo, .int .i64 hi, m] 182)) := (Below.refl _ _).alloc (Nat.le_refl _) _
  have b2 : Below w.heap.size w ((w.alloc (.cells #[.int .i64 lo, .int .i64 hi, m] 182)).alloc (.cells #[.int .i64 0, .int .i64 0] 179)) := b1.alloc b1.size _
  have old : ∀ o : Nat, ((w.alloc (.cells #[.int .i64 lo, .int .i64 hi, m] 182)).alloc (.cells #[.int .i64 0, .int .i64 0] 179)).cell? ⟨w.heap.size, o, none⟩ = (w.alloc (.cells #[.int .i64 lo, .int .i64 hi, m] 182)).cell? ⟨w.heap.size, o, none⟩ := fun o =>
    Below.cell (B := (w.alloc (.cells #[.int .i64 lo, .int .i64 hi, m] 182)).heap.size) ((Below.refl _ _).alloc (Nat.le_refl _) _) (p := ⟨w.heap.size, o, none⟩) (by simp)
  have hz : (w.alloc (.cells #[.int .i64 lo, .int .i64 hi, m] 182)).heap.size = w.heap.size + 1 := by simp
  refine ⟨?_, ?_, ?_, ?_, ?_, ?_, ?_, by simp, b2, hN.below b2 (Nat.le_refl _), t.below b2⟩
  · rw [old, World.cell?_alloc_new]; rfl
  · rw [old, World.cell?_alloc_new]; rfl
  · rw [old, World.cell?_alloc_new]; rfl
  · rw [← hz, World.cell?_alloc_new]; rfl
  · rw [← hz, World.cell?_alloc_new]; rfl
  · rw [← hz]; exact frozen_new _ _ _ _
  · rw [← hz]; exact frozen_new _ _ _ _

/-- What parseRange answers. -/
def RangeSaid (f : Nat) (p : Bytes) (t : Bool) (e : Ending) : Prop :=
  ∃ a b : Nat, a ≤ 99 ∧ b ≤ 99 ∧ (∀ x y, rangeU f p t = some (x, y) → a = x ∧ b = y) ∧ e = .returned (.tuple #[spanV a b, .bool (rangeU f p t).isSome])

theorem below_two {B : Nat} {w w' : World} (h : Below B w w') (b : Nat) (hb : B ≤ b) (v0 v1 : Value) : Below B w ((w'.setCell ⟨b, 0, none⟩ v0).setCell ⟨b, 1, none⟩ v1) := (h.setCell hb v0).setCell hb v1

set_option maxRecDepth 100000 in
set_option maxHeartbeats 2000000 in
theorem parseRange_any (f : Nat) (m : Value) (s : ByteArray) (t : Bool) (w : World) (hf : f < 5) (hs : s.size ≤ 1000) (tb : Tab w) (hN : NamesAt w m f) :
    Calls Tryz.prog 163 #[fieldV f m, .string s, .bool t] w fun e w' => RangeSaid f s.data.toList t e ∧ Below w.heap.size w w' := by
  have hR := Lib.hid (Rng.start w (low f) (high f) f m tb hN)
  have Cc : Hid (∀ W, Tab W → Calls Tryz.prog 162 #[.string s, .string ⟨#[45]⟩] W fun e w' => e = .returned (.tuple #[.string (bs (Lib.cut s.data.toList [45]).1), .string (bs (Lib.cut s.data.toList [45]).2.1), .bool (Lib.cut s.data.toList [45]).2.2]) ∧ Below W.heap.size W w') := fun W h => cut_any s 45 W h hs
  have Cp : Hid (∀ (q : ByteArray) W, q.size ≤ 1000 → NamesAt W m f → Calls Tryz.prog 177 #[fieldV f m, .string q] W fun e w' => PlaceSaid f q.data.toList e ∧ Below W.heap.size W w') := fun q W h1 h2 => parsePlace_any f m q W hf h1 h2
  rcases first_of (c := 45) (s := s.data.toList) with h | ⟨x, y, e, h⟩
  · have hU : Hid (rangeU f s.data.toList t = match place f s.data.toList with
        | some x => if t then none else some (x, x)
        | none => none) := by
      unfold Hid rangeU
      rw [cut_none h]
      simp only [Bool.false_eq_true, if_false]
      cases place f s.data.toList <;> rfl
    rw [cut_none h] at Cc
    simp only [] at Cc
    clear h
    unfold fieldV at Cp ⊢
    generalize low f = lo at *
    generalize high f = hi at *
    clear tb hN
    go_enter Tryz.func163, Tryz.ntmps163
    go_wp2_with fail
    refine (Cc.out _ hR.out.tab).mono ?_
    rintro e w3 ⟨rfl, k3⟩
    replace hR := Lib.hid (hR.out.step k3)
    clear k3 Cc
    obtain ⟨q0, q1, q2, q3, q4, q5, q6, q7, _, _, _⟩ := hR.out
    go_wp2_with fail
    refine (Cp.out s _ hs hR.out.names).mono ?_
    rintro e w4 ⟨⟨v, v1, v2, rfl⟩, k4⟩
    clear q0 q1 q2 q3 q4 q5 q6 q7
    replace hR := Lib.hid (hR.out.step k4)
    clear k4
    replace v2 := Lib.hid v2
    obtain ⟨q0, q1, q2, q3, q4, q5, q6, q7, _, _, _⟩ := hR.out
    generalize hp : place f s.data.toList = r at *
    clear hp
    cases r with
    | none =>
      simp only [Option.isSome_none]
      go_wp2_with fail
      refine bodyPost_ret (v := .tuple #[spanV v v, .bool false]) ?_ rfl ?_
      · rw [results_cell_tmp rfl]
        go_simp
        rfl
      · exact ⟨⟨v, v, v1, v1, fun _ _ h => (by rw [hU.out] at h; cases h), by rw [hU.out]; rfl⟩, below_two hR.out.below _ (by omega) _ _⟩
    | some n =>
      simp only [Option.isSome_some]
      obtain rfl := v2.out n rfl
      clear v2
      cases t
      · go_wp2_with fail
        refine bodyPost_ret (v := .tuple #[spanV v v, .bool true]) ?_ rfl ?_
        · rw [results_cell_tmp rfl]
          go_simp
          rfl
        · exact ⟨⟨v, v, v1, v1, fun _ _ h => (by rw [hU.out] at h; cases h; exact ⟨rfl, rfl⟩), by rw [hU.out]; rfl⟩, below_two hR.out.below _ (by omega) _ _⟩
      · go_wp2_with fail
        refine bodyPost_ret (v := .tuple #[spanV v v, .bool false]) ?_ rfl ?_
        · rw [results_cell_tmp rfl]
          go_simp
          rfl
        · exact ⟨⟨v, v, v1, v1, fun _ _ h => (by rw [hU.out] at h; cases h), by rw [hU.out]; rfl⟩, below_two hR.out.below _ (by omega) _ _⟩
  · have hx : (bs x).size ≤ 1000 := by
      rw [bs_size]
      have := congrArg List.length e
      simp at this
      omega
    have hy : (bs y).size ≤ 1000 := by
      rw [bs_size]
      have := congrArg List.length e
      simp at this
      omega
    have hU : Hid (rangeU f s.data.toList t = match place f x, place f y with
        | some a, some b => if a ≤ b then some (a, b) else none
        | _, _ => none) := by
      unfold Hid rangeU
      rw [e, cut_at h]
      simp only [if_true]
      cases place f x <;> cases place f y <;> rfl
    rw [e, cut_at h] at Cc
    simp only [] at Cc
    clear h e
    unfold fieldV at Cp ⊢
    generalize low f = lo at *
    generalize high f = hi at *
    clear tb hN
    go_enter Tryz.func163, Tryz.ntmps163
    go_wp2_with fail
    refine (Cc.out _ hR.out.tab).mono ?_
    rintro e w3 ⟨rfl, k3⟩
    replace hR := Lib.hid (hR.out.step k3)
    clear k3 Cc
    obtain ⟨q0, q1, q2, q3, q4, q5, q6, q7, _, _, _⟩ := hR.out
    go_wp2_with fail
    refine (Cp.out (bs x) _ hx hR.out.names).mono ?_
    rintro e w4 ⟨⟨v, v1, v2, rfl⟩, k4⟩
    clear q0 q1 q2 q3 q4 q5 q6 q7
    replace hR := Lib.hid (hR.out.step k4)
    clear k4
    replace v2 := Lib.hid v2
    obtain ⟨q0, q1, q2, q3, q4, q5, q6, q7, _, _, _⟩ := hR.out
    rw [bs_toList] at v2 ⊢
    go_wp2_with fail
    refine (Cp.out (bs y) _ hy hR.out.names).mono ?_
    rintro e w5 ⟨⟨u, u1, u2, rfl⟩, k5⟩
    clear q0 q1 q2 q3 q4 q5 q6 q7
    replace hR := Lib.hid (hR.out.step k5)
    clear k5
    replace u2 := Lib.hid u2
    obtain ⟨q0, q1, q2, q3, q4, q5, q6, q7, _, _, _⟩ := hR.out
    rw [bs_toList] at u2 ⊢
    generalize hp : place f x = r at *
    generalize hq : place f y = r' at *
    clear hp hq
    cases r with
    | none =>
      simp only [Option.isSome_none]
      go_wp2_with fail
      refine bodyPost_ret (v := .tuple #[spanV v u, .bool false]) ?_ rfl ?_
      · rw [results_cell_tmp rfl]
        go_simp
        rfl
      · exact ⟨⟨v, u, v1, u1, fun _ _ h => (by rw [hU.out] at h; cases h), by rw [hU.out]; rfl⟩, below_two hR.out.below _ (by omega) _ _⟩
    | some n =>
      simp only [Option.isSome_some]
      obtain rfl := v2.out n rfl
      clear v2
      cases r' with
      | none =>
        simp only [Option.isSome_none]
        go_wp2_with fail
        refine bodyPost_ret (v := .tuple #[spanV v u, .bool false]) ?_ rfl ?_
        · rw [results_cell_tmp rfl]
          go_simp
          rfl
        · exact ⟨⟨v, u, v1, u1, fun _ _ h => (by rw [hU.out] at h; cases h), by rw [hU.out]; rfl⟩, below_two hR.out.below _ (by omega) _ _⟩
      | some n' =>
        simp only [Option.isSome_some]
        obtain rfl := u2.out n' rfl
        clear u2
        by_cases hle : v ≤ u
        · go_wp2_with fail
          refine bodyPost_ret (v := .tuple #[spanV v u, .bool true]) ?_ rfl ?_
          · rw [results_cell_tmp rfl]
            go_simp
            rfl
          · refine ⟨⟨v, u, v1, u1, fun _ _ h => ?_, ?_⟩, below_two hR.out.below _ (by omega) _ _⟩
            · rw [hU.out] at h; rw [if_pos hle] at h; cases h; exact ⟨rfl, rfl⟩
            · rw [hU.out]; rw [if_pos hle]; rfl
        · go_wp2_with fail
          refine bodyPost_ret (v := .tuple #[spanV v u, .bool false]) ?_ rfl ?_
          · rw [results_cell_tmp rfl]
            go_simp
            rfl
          · refine ⟨⟨v, u, v1, u1, fun _ _ h => ?_, ?_⟩, below_two hR.out.below _ (by omega) _ _⟩
            · rw [hU.out] at h; rw [if_neg hle] at h; cases h
            · rw [hU.out]; rw [if_neg hle]; rfl
end Go.Proofs.YtiidhcpflplpiaaGreatDoor
