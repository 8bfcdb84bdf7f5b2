/-
  Texts laid into one (a claim has 60 files at most): OGot, ODuM.
-/
import Derived.Test.YtoihekgmomjhpaaGreatDoorKO7
import Derived.Test.YtoihekgmomjhpaaGreatDoorKO8
/-
  Layer 9: Fire, of what fired last.
-/
set_option linter.unusedVariables false
set_option linter.unusedSimpArgs false
namespace Go.Proofs.YtoihekgmomjhpaaGreatDoor
open Go.RowKit Go.MapKept Crn Nxt Ste
set_option maxRecDepth 100000
abbrev oGt_0 : Oper := { dst := some 17, op := Go.Op.move (Go.Operand.tmp 6), type := 3, pos := "oplog.go:101", after := #[], guard := none }
abbrev oGt_1 : Oper := { dst := some 18, op := Go.Op.load 25 (Go.Operand.tmp 2), type := 25, pos := "oplog.go:101", after := #[], guard := none }
abbrev oGt_2 : Oper := { dst := some 19, op := Go.Op.nilCheck (Go.Operand.tmp 18), type := 0, pos := "oplog.go:101", after := #[{ on := 1, ground := Go.Ground.data }], guard := none }
abbrev oGt_3 : Oper := { dst := some 20, op := Go.Op.fieldAddr 81 (Go.Operand.tmp 19) 6, type := 0, pos := "oplog.go:101", after := #[{ on := 2, ground := Go.Ground.data }], guard := none }
abbrev oGt_4 : Oper := { dst := some 21, op := Go.Op.load 66 (Go.Operand.tmp 20), type := 66, pos := "oplog.go:101", after := #[{ on := 3, ground := Go.Ground.data }], guard := none }
abbrev oGt_5 : Oper := { dst := some 22, op := Go.Op.call { callee := Go.Callee.builtin Go.Builtin.len, args := #[Go.Operand.tmp 21], argTypes := #[66] }, type := 3, pos := "oplog.go:101", after := #[{ on := 4, ground := Go.Ground.data }], guard := none }
abbrev oGt_6 : Oper := { dst := some 23, op := Go.Op.binOp Go.BinOp.eql 3 (Go.Operand.tmp 17) (Go.Operand.tmp 22) 3, type := 4, pos := "oplog.go:101", after := #[{ on := 0, ground := Go.Ground.data }, { on := 5, ground := Go.Ground.data }], guard := none }
abbrev oGt_7 : Oper := { dst := some 24, op := Go.Op.move (Go.Operand.tmp 23), type := 4, pos := "oplog.go:101", after := #[{ on := 6, ground := Go.Ground.data }], guard := none }
abbrev oGt_8 : Oper := { dst := some 25, op := Go.Op.load 25 (Go.Operand.tmp 2), type := 25, pos := "oplog.go:101", after := #[{ on := 7, ground := Go.Ground.guard }], guard := some (7, false) }
abbrev oGt_9 : Oper := { dst := some 26, op := Go.Op.nilCheck (Go.Operand.tmp 25), type := 0, pos := "oplog.go:101", after := #[{ on := 8, ground := Go.Ground.data }, { on := 7, ground := Go.Ground.guard }], guard := some (7, false) }
abbrev oGt_10 : Oper := { dst := some 27, op := Go.Op.fieldAddr 81 (Go.Operand.tmp 26) 6, type := 0, pos := "oplog.go:101", after := #[{ on := 9, ground := Go.Ground.data }, { on := 7, ground := Go.Ground.guard }], guard := some (7, false) }
abbrev oGt_11 : Oper := { dst := some 28, op := Go.Op.load 66 (Go.Operand.tmp 27), type := 66, pos := "oplog.go:101", after := #[{ on := 10, ground := Go.Ground.data }, { on := 7, ground := Go.Ground.guard }], guard := some (7, false) }
abbrev oGt_12 : Oper := { dst := some 29, op := Go.Op.move (Go.Operand.tmp 6), type := 3, pos := "oplog.go:101", after := #[{ on := 7, ground := Go.Ground.guard }], guard := some (7, false) }
abbrev oGt_13 : Oper := { dst := some 30, op := Go.Op.indexAddr 66 (Go.Operand.tmp 28) (Go.Operand.tmp 29), type := 0, pos := "oplog.go:101", after := #[{ on := 11, ground := Go.Ground.data }, { on := 12, ground := Go.Ground.data }, { on := 7, ground := Go.Ground.guard }], guard := some (7, false) }
abbrev oGt_14 : Oper := { dst := some 31, op := Go.Op.fieldAddr 71 (Go.Operand.tmp 30) 0, type := 0, pos := "oplog.go:101", after := #[{ on := 13, ground := Go.Ground.data }, { on := 7, ground := Go.Ground.guard }], guard := some (7, false) }
abbrev oGt_15 : Oper := { dst := some 32, op := Go.Op.load 3 (Go.Operand.tmp 31), type := 3, pos := "oplog.go:101", after := #[{ on := 14, ground := Go.Ground.data }, { on := 7, ground := Go.Ground.guard }], guard := some (7, false) }
abbrev oGt_16 : Oper := { dst := some 33, op := Go.Op.load 3 (Go.Operand.tmp 3), type := 3, pos := "oplog.go:101", after := #[{ on := 7, ground := Go.Ground.guard }], guard := some (7, false) }
abbrev oGt_17 : Oper := { dst := some 34, op := Go.Op.binOp Go.BinOp.neq 3 (Go.Operand.tmp 32) (Go.Operand.tmp 33) 3, type := 4, pos := "oplog.go:101", after := #[{ on := 15, ground := Go.Ground.data }, { on := 16, ground := Go.Ground.data }, { on := 7, ground := Go.Ground.guard }], guard := some (7, false) }
abbrev oGt_18 : Oper := { dst := some 35, op := Go.Op.pick (Go.Operand.tmp 24) (Go.Operand.const (Go.Value.bool true)) (Go.Operand.tmp 34), type := 4, pos := "oplog.go:101", after := #[{ on := 7, ground := Go.Ground.data }, { on := 17, ground := Go.Ground.data }], guard := none }
set_option maxHeartbeats 4000000 in
theorem fireLast_any {base b wb : Nat} {w : World} {x : Pl} {g : Lo} (h : LP base w b wb x g) (F : List FireR) (f : FireR) (hf : g.fires = F ++ [f]) (hF : ∀ a ∈ F, a.1 < f.1) (hl : F.length < 100000) :
    Calls Tryz.prog 26 #[.pointer (some ⟨x.lb, 0, none⟩), .int .i64 f.1] w fun e w' => e = .returned (.tuple #[.agg (fireC f), .bool true]) ∧ Below w.heap.size w w' := by
  have hlb := lt_in h.box
  have hlen : g.fires.length = F.length + 1 := by rw [hf]; simp
  have c6 : w.cell? ⟨x.lb, 6, none⟩ = some (.slice x.fp g.fires.length x.fc) := cell_in h.box 6
  have k6 : ∀ i (hi : i < F.length + 1), ∃ gb, x.fp = some ⟨gb, 0, none⟩ ∧ gb < w.heap.size ∧ ∀ j v, (fireC ((F ++ [f])[i]'(by simp; omega)))[j]? = some v → w.cell? ⟨gb, i * 6 + j, none⟩ = some v := fun i hi => by
    have hr := h.fir
    rw [hf] at hr
    obtain ⟨gb, e, hat⟩ := hr.at (fun _ => rfl) i (by simp; omega)
    exact ⟨gb, e, (h.fir.lt gb (by rw [e]; simp [rowOf, Value.ownBlock])).2, hat⟩
  obtain ⟨gb, hfp, hgb, hlast⟩ := k6 F.length (by omega)
  rw [hfp, hlen] at c6
  have k7 : Hid (∀ i, i < F.length + 1 → ∃ fs : Int, w.cell? ⟨gb, i * 6, none⟩ = some (.int .i64 fs) ∧ (f.1 ≤ fs ↔ F.length ≤ i)) := fun i hi => by
    obtain ⟨gb2, e2, _, hat⟩ := k6 i hi
    rw [hfp] at e2
    injection e2 with e2
    injection e2 with e2
    subst e2
    refine ⟨_, hat 0 _ rfl, ?_⟩
    rcases Nat.lt_or_ge i F.length with g1 | g1
    · rw [List.getElem_append_left g1]
      have := hF _ (List.getElem_mem g1)
      constructor <;> intro <;> omega
    · have e : i = F.length := by omega
      subst e
      simp
  have hlast2 : Hid (∀ j v, (fireC f)[j]? = some v → w.cell? ⟨gb, F.length * 6 + j, none⟩ = some v) := fun j v hv => hlast j v (by simpa using hv)
  obtain ⟨seq, f1, f2, f3, f4, f5⟩ := f
  simp only at *
  clear h hF hf k6 hlast hlen hfp
  generalize F.length = n at *
  have hU0 : (((w.alloc (.cells #[.pointer (some ⟨x.lb, 0, none⟩)] 25)).alloc (.cells #[.int .i64 seq] 3)).alloc (.cells #[.int .i64 0, .int .i64 0, .int .i64 0, .int .i64 0, .int .i64 0, .int .i64 0] 71)).heap[w.heap.size]? = some (.cells #[.pointer (some ⟨x.lb, 0, none⟩)] 25) := (Go.heap_alloc_old _ _ (by simp; omega)).trans ((Go.heap_alloc_old _ _ (by simp)).trans (Go.heap_alloc_new w _))
  have hU1 : (((w.alloc (.cells #[.pointer (some ⟨x.lb, 0, none⟩)] 25)).alloc (.cells #[.int .i64 seq] 3)).alloc (.cells #[.int .i64 0, .int .i64 0, .int .i64 0, .int .i64 0, .int .i64 0, .int .i64 0] 71)).heap[w.heap.size + 1]? = some (.cells #[.int .i64 seq] 3) := (Go.heap_alloc_old _ _ (by simp)).trans (by
    have := Go.heap_alloc_new (w.alloc (.cells #[.pointer (some ⟨x.lb, 0, none⟩)] 25)) (.cells #[.int .i64 seq] 3)
    simpa using this)
  have hU2 : (((w.alloc (.cells #[.pointer (some ⟨x.lb, 0, none⟩)] 25)).alloc (.cells #[.int .i64 seq] 3)).alloc (.cells #[.int .i64 0, .int .i64 0, .int .i64 0, .int .i64 0, .int .i64 0, .int .i64 0] 71)).heap[w.heap.size + 1 + 1]? = some (.cells #[.int .i64 0, .int .i64 0, .int .i64 0, .int .i64 0, .int .i64 0, .int .i64 0] 71) := by
    have := Go.heap_alloc_new ((w.alloc (.cells #[.pointer (some ⟨x.lb, 0, none⟩)] 25)).alloc (.cells #[.int .i64 seq] 3)) (.cells #[.int .i64 0, .int .i64 0, .int .i64 0, .int .i64 0, .int .i64 0, .int .i64 0] 71)
    simpa using this
  have b3 : Hid (Below w.heap.size w (((w.alloc (.cells #[.pointer (some ⟨x.lb, 0, none⟩)] 25)).alloc (.cells #[.int .i64 seq] 3)).alloc (.cells #[.int .i64 0, .int .i64 0, .int .i64 0, .int .i64 0, .int .i64 0, .int .i64 0] 71))) := (((Below.refl _ _).alloc (Nat.le_refl _) _).alloc (by simp) _).alloc (by simp; omega) _
  have u0 := cell_in hU0 0
  have d6 := (World.cell?_of_block (w := w) (a := ⟨x.lb, 6, none⟩) (b3.out.block _ hlb)).trans c6
  go_enter Tryz.func26, Tryz.ntmps26
  go_wp2_with fail
  have en : (n : Int) + 1 = ((n + 1 : Nat) : Int) := by omega
  rw [en]
  generalize (((w.alloc (.cells #[.pointer (some ⟨x.lb, 0, none⟩)] 25)).alloc (.cells #[.int .i64 seq] 3)).alloc (.cells #[.int .i64 0, .int .i64 0, .int .i64 0, .int .i64 0, .int .i64 0, .int .i64 0] 71)) = W0 at *
  have hkeep : ∀ W, Below W0.heap.size W0 W → W.cell? ⟨w.heap.size, 0, none⟩ = some (.pointer (some ⟨x.lb, 0, none⟩)) ∧ W.cell? ⟨x.lb, 6, none⟩ = some (.slice (some ⟨gb, 0, none⟩) (n + 1) x.fc) ∧ W.cell? ⟨w.heap.size + 1, 0, none⟩ = some (.int .i64 seq) ∧ ∀ o v, w.cell? ⟨gb, o, none⟩ = some v → W.cell? ⟨gb, o, none⟩ = some v := fun W k =>
    ⟨cell_in ((k.block _ (lt_in hU0)).trans hU0) 0, (World.cell?_of_block (w := w) (a := ⟨x.lb, 6, none⟩) ((b3.out.trans (k.mono b3.out.size)).block _ hlb)).trans c6, cell_in ((k.block _ (lt_in hU1)).trans hU1) 0, fun o v hv => (World.cell?_of_block (w := w) (a := ⟨gb, o, none⟩) ((b3.out.trans (k.mono b3.out.size)).block _ hgb)).trans hv⟩
  refine (searchFire_any _ _ (n + 1) (fun k => decide (n ≤ k)) W0 (by omega) (fun a b h1 _ h2 => by simp only [decide_eq_true_eq] at h2 ⊢; omega) (fun i W hi k => ?_)).mono ?_
  · obtain ⟨fs, hc, hiff⟩ := k7.out i hi
    obtain ⟨q0, q1, q2, q3⟩ := hkeep W k
    refine (fireAt_any i (n + 1) x.fc gb x.lb _ _ fs seq W hi q0 q1 (q3 _ _ hc) q2 (by omega)).mono fun e w' ⟨he, hb⟩ => ⟨?_, hb⟩
    rw [he, decide_eq_decide.2 hiff]
  rintro e W1 ⟨⟨i, rfl, hi, hm⟩, kb⟩
  obtain rfl : i = n := by
    have h1 := hm.1 n
    have h2 := hm.2 i
    simp only [decide_eq_true_eq, decide_eq_false_iff_not] at h1 h2
    omega
  obtain ⟨q0, q1, q2, q3⟩ := hkeep W1 kb
  have v0 : W1.cell? ⟨gb, i * 6, none⟩ = some (.int .i64 seq) := q3 _ _ (hlast2.out 0 _ rfl)
  have v1 := q3 _ _ (hlast2.out 1 _ rfl)
  have v2 := q3 _ _ (hlast2.out 2 _ rfl)
  have v3 := q3 _ _ (hlast2.out 3 _ rfl)
  have v4 := q3 _ _ (hlast2.out 4 _ rfl)
  have v5 := q3 _ _ (hlast2.out 5 _ rfl)
  have b4 := Lib.hid (b3.out.trans (kb.mono b3.out.size))
  have hU := (kb.block _ (lt_in hU2)).trans hU2
  have e0 := cell_in hU 0
  have e1 := cell_in hU 1
  have e2 := cell_in hU 2
  have e3 := cell_in hU 3
  have e4 := cell_in hU 4
  have e5 := cell_in hU 5
  have f0' := free_in hU 0
  have f1' := free_in hU 1
  have f2' := free_in hU 2
  have f3' := free_in hU 3
  have f4' := free_in hU 4
  have f5' := free_in hU 5
  have hne : ¬ (i : Int) = ((i + 1 : Nat) : Int) := by omega
  have hlt : (i : Int) < ((i + 1 : Nat) : Int) := by omega
  clear hU0 hU1 hU2 hU b3 hkeep k7 hlast2 hm kb q3 u0 d6 c6 en hlb hgb
  have hn2 : ((i : Int) == (i : Int) + 1) = false := by rw [beq_eq_false_iff_ne]; omega
  have hn3 : ((i : Int) == ((i + 1 : Nat) : Int)) = false := by rw [beq_eq_false_iff_ne]; omega
  go_upto_region 4 with fail
  have hn4 : Hid (((i : Int) == (i : Int) + 1) = false) := hn2
  have hn5 : Hid (¬ (i : Int) = (i : Int) + 1) := by show ¬ _; omega
  refine wp_region_noPanic ?_
  refine wp_region_held_drew (S := (fun w' => w'.cell? ⟨w.heap.size, 0, none⟩ = some (.pointer (some ⟨x.lb, 0, none⟩)) ∧ w'.cell? ⟨x.lb, 6, none⟩ = some (.slice (some ⟨gb, 0, none⟩) (i + 1) x.fc) ∧ w'.cell? ⟨w.heap.size + 1, 0, none⟩ = some (.int .i64 seq) ∧ w'.cell? ⟨gb, i * 6, none⟩ = some (.int .i64 seq))) (by kernel_rfl) ?hSoGt_0 (fun hHeld => ?_)
  case hSoGt_0 => ((try dsimp only); exact ⟨q0, q1, q2, v0⟩)
  refine wpAnyH_take (i := 0) (oi := oGt_0) (v := ?voGt_1) rfl (by kernel_rfl) (by kernel_rfl) (by kernel_rfl) (fun _ _ _ h => h) (Or.inl ⟨by rfl, ?yoGt_1⟩) (by assumption) ?roGt_1
  case yoGt_1 => (intro w hSw; (try dsimp only at hSw); unfold oGt_0; go_simp; try with_reducible rfl)
  simp only [oGt_0, Act.put, List.setIfInBounds_toArray, List.set_cons_zero, List.set_cons_succ]
  refine wpAnyH_take (i := 1) (oi := oGt_1) (v := ?voGt_2) rfl (by kernel_rfl) (by kernel_rfl) (by kernel_rfl) (fun _ _ _ h => h) (Or.inl ⟨by rfl, ?yoGt_2⟩) (by assumption) ?roGt_2
  case yoGt_2 => (intro w hSw; (try dsimp only at hSw); unfold oGt_1; go_simp; try with_reducible rfl)
  simp only [oGt_1, Act.put, List.setIfInBounds_toArray, List.set_cons_zero, List.set_cons_succ]
  refine wpAnyH_take (i := 2) (oi := oGt_2) (v := ?voGt_3) rfl (by kernel_rfl) (by kernel_rfl) (by kernel_rfl) (fun _ _ _ h => h) (Or.inl ⟨by rfl, ?yoGt_3⟩) (by assumption) ?roGt_3
  case yoGt_3 => (intro w hSw; (try dsimp only at hSw); unfold oGt_2; go_simp; try with_reducible rfl)
  simp only [oGt_2, Act.put, List.setIfInBounds_toArray, List.set_cons_zero, List.set_cons_succ]
  refine wpAnyH_take (i := 3) (oi := oGt_3) (v := ?voGt_4) rfl (by kernel_rfl) (by kernel_rfl) (by kernel_rfl) (fun _ _ _ h => h) (Or.inl ⟨by rfl, ?yoGt_4⟩) (by assumption) ?roGt_4
  case yoGt_4 => (intro w hSw; (try dsimp only at hSw); unfold oGt_3; go_simp; try with_reducible rfl)
  simp only [oGt_3, Act.put, List.setIfInBounds_toArray, List.set_cons_zero, List.set_cons_succ]
  refine wpAnyH_take (i := 4) (oi := oGt_4) (v := ?voGt_5) rfl (by kernel_rfl) (by kernel_rfl) (by kernel_rfl) (fun _ _ _ h => h) (Or.inl ⟨by rfl, ?yoGt_5⟩) (by assumption) ?roGt_5
  case yoGt_5 => (intro w hSw; (try dsimp only at hSw); unfold oGt_4; go_simp; try with_reducible rfl)
  simp only [oGt_4, Act.put, List.setIfInBounds_toArray, List.set_cons_zero, List.set_cons_succ]
  refine wpAnyH_take (i := 5) (oi := oGt_5) (v := ?voGt_6) rfl (by kernel_rfl) (by kernel_rfl) (by kernel_rfl) (fun _ _ _ h => h) (Or.inl ⟨by rfl, ?yoGt_6⟩) (by assumption) ?roGt_6
  case yoGt_6 => (intro w hSw; (try dsimp only at hSw); unfold oGt_5; go_simp; try with_reducible rfl)
  simp only [oGt_5, Act.put, List.setIfInBounds_toArray, List.set_cons_zero, List.set_cons_succ]
  refine wpAnyH_take (i := 6) (oi := oGt_6) (v := ?voGt_7) rfl (by kernel_rfl) (by kernel_rfl) (by kernel_rfl) (fun _ _ _ h => h) (Or.inl ⟨by rfl, ?yoGt_7⟩) (by assumption) ?roGt_7
  case yoGt_7 => (intro w hSw; (try dsimp only at hSw); unfold oGt_6; (have hq := hn4.out); (have hq2 := hn5.out); go_simp; try with_reducible rfl)
  simp only [oGt_6, Act.put, List.setIfInBounds_toArray, List.set_cons_zero, List.set_cons_succ]
  refine wpAnyH_take (i := 7) (oi := oGt_7) (v := ?voGt_8) rfl (by kernel_rfl) (by kernel_rfl) (by kernel_rfl) (fun _ _ _ h => h) (Or.inl ⟨by rfl, ?yoGt_8⟩) (by assumption) ?roGt_8
  case yoGt_8 => (intro w hSw; (try dsimp only at hSw); unfold oGt_7; go_simp; try with_reducible rfl)
  simp only [oGt_7, Act.put, List.setIfInBounds_toArray, List.set_cons_zero, List.set_cons_succ]
  refine wpAnyH_take (i := 8) (oi := oGt_8) (v := ?voGt_9) rfl (by kernel_rfl) (by kernel_rfl) (by kernel_rfl) (fun _ _ _ h => h) (Or.inl ⟨by rfl, ?yoGt_9⟩) (by assumption) ?roGt_9
  case yoGt_9 => (intro w hSw; (try dsimp only at hSw); unfold oGt_8; go_simp; try with_reducible rfl)
  simp only [oGt_8, Act.put, List.setIfInBounds_toArray, List.set_cons_zero, List.set_cons_succ]
  refine wpAnyH_take (i := 12) (oi := oGt_12) (v := ?voGt_10) rfl (by kernel_rfl) (by kernel_rfl) (by kernel_rfl) (fun _ _ _ h => h) (Or.inl ⟨by rfl, ?yoGt_10⟩) (by assumption) ?roGt_10
  case yoGt_10 => (intro w hSw; (try dsimp only at hSw); unfold oGt_12; go_simp; try with_reducible rfl)
  simp only [oGt_12, Act.put, List.setIfInBounds_toArray, List.set_cons_zero, List.set_cons_succ]
  refine wpAnyH_take (i := 16) (oi := oGt_16) (v := ?voGt_11) rfl (by kernel_rfl) (by kernel_rfl) (by kernel_rfl) (fun _ _ _ h => h) (Or.inl ⟨by rfl, ?yoGt_11⟩) (by assumption) ?roGt_11
  case yoGt_11 => (intro w hSw; (try dsimp only at hSw); unfold oGt_16; go_simp; try with_reducible rfl)
  simp only [oGt_16, Act.put, List.setIfInBounds_toArray, List.set_cons_zero, List.set_cons_succ]
  refine wpAnyH_take (i := 9) (oi := oGt_9) (v := ?voGt_12) rfl (by kernel_rfl) (by kernel_rfl) (by kernel_rfl) (fun _ _ _ h => h) (Or.inl ⟨by rfl, ?yoGt_12⟩) (by assumption) ?roGt_12
  case yoGt_12 => (intro w hSw; (try dsimp only at hSw); unfold oGt_9; go_simp; try with_reducible rfl)
  simp only [oGt_9, Act.put, List.setIfInBounds_toArray, List.set_cons_zero, List.set_cons_succ]
  refine wpAnyH_take (i := 10) (oi := oGt_10) (v := ?voGt_13) rfl (by kernel_rfl) (by kernel_rfl) (by kernel_rfl) (fun _ _ _ h => h) (Or.inl ⟨by rfl, ?yoGt_13⟩) (by assumption) ?roGt_13
  case yoGt_13 => (intro w hSw; (try dsimp only at hSw); unfold oGt_10; go_simp; try with_reducible rfl)
  simp only [oGt_10, Act.put, List.setIfInBounds_toArray, List.set_cons_zero, List.set_cons_succ]
  refine wpAnyH_take (i := 11) (oi := oGt_11) (v := ?voGt_14) rfl (by kernel_rfl) (by kernel_rfl) (by kernel_rfl) (fun _ _ _ h => h) (Or.inl ⟨by rfl, ?yoGt_14⟩) (by assumption) ?roGt_14
  case yoGt_14 => (intro w hSw; (try dsimp only at hSw); unfold oGt_11; go_simp; try with_reducible rfl)
  simp only [oGt_11, Act.put, List.setIfInBounds_toArray, List.set_cons_zero, List.set_cons_succ]
  refine wpAnyH_take (i := 13) (oi := oGt_13) (v := ?voGt_15) rfl (by kernel_rfl) (by kernel_rfl) (by kernel_rfl) (fun _ _ _ h => h) (Or.inl ⟨by rfl, ?yoGt_15⟩) (by assumption) ?roGt_15
  case yoGt_15 => (intro w hSw; (try dsimp only at hSw); unfold oGt_13; (have hq : (i : Int) < (i : Int) + 1 := by omega); go_simp; try with_reducible rfl)
  simp only [oGt_13, Act.put, List.setIfInBounds_toArray, List.set_cons_zero, List.set_cons_succ]
  refine wpAnyH_take (i := 14) (oi := oGt_14) (v := ?voGt_16) rfl (by kernel_rfl) (by kernel_rfl) (by kernel_rfl) (fun _ _ _ h => h) (Or.inl ⟨by rfl, ?yoGt_16⟩) (by assumption) ?roGt_16
  case yoGt_16 => (intro w hSw; (try dsimp only at hSw); unfold oGt_14; go_simp; try with_reducible rfl)
  simp only [oGt_14, Act.put, List.setIfInBounds_toArray, List.set_cons_zero, List.set_cons_succ]
  refine wpAnyH_take (i := 15) (oi := oGt_15) (v := ?voGt_17) rfl (by kernel_rfl) (by kernel_rfl) (by kernel_rfl) (fun _ _ _ h => h) (Or.inl ⟨by rfl, ?yoGt_17⟩) (by assumption) ?roGt_17
  case yoGt_17 => (intro w hSw; (try dsimp only at hSw); unfold oGt_15; go_simp; try with_reducible rfl)
  simp only [oGt_15, Act.put, List.setIfInBounds_toArray, List.set_cons_zero, List.set_cons_succ]
  refine wpAnyH_take (i := 17) (oi := oGt_17) (v := ?voGt_18) rfl (by kernel_rfl) (by kernel_rfl) (by kernel_rfl) (fun _ _ _ h => h) (Or.inl ⟨by rfl, ?yoGt_18⟩) (by assumption) ?roGt_18
  case yoGt_18 => (intro w hSw; (try dsimp only at hSw); unfold oGt_17; go_simp; try with_reducible rfl)
  simp only [oGt_17, Act.put, List.setIfInBounds_toArray, List.set_cons_zero, List.set_cons_succ]
  refine wpAnyH_take (i := 18) (oi := oGt_18) (v := ?voGt_19) rfl (by kernel_rfl) (by kernel_rfl) (by kernel_rfl) (fun _ _ _ h => h) (Or.inl ⟨by rfl, ?yoGt_19⟩) (by assumption) ?roGt_19
  case yoGt_19 => (intro w hSw; (try dsimp only at hSw); unfold oGt_18; go_simp; try with_reducible rfl)
  simp only [oGt_18, Act.put, List.setIfInBounds_toArray, List.set_cons_zero, List.set_cons_succ]
  refine wpAnyH_done (by kernel_rfl) ?_ _
  refine NoPanic.normal ?_
  clear hHeld
  go_wp2_with fail
  refine bodyPost_ret (v := .tuple #[.agg (fireC (seq, f1, f2, f3, f4, f5)), .bool true]) ?_ rfl ?_
  · rw [results_cell_tmp rfl]
    go_simp
    try exact ⟨rfl, rfl, rfl, rfl, rfl, rfl⟩
  · refine ⟨rfl, b4.out.trans (Kl.below (L := [w.heap.size + 1 + 1]) ?_ (fun k e => by rw [List.mem_singleton.1 e]; omega) b4.out.size)⟩
    have hin : w.heap.size + 1 + 1 ∈ [w.heap.size + 1 + 1] := List.mem_singleton.2 rfl
    clear v0 v1 v2 v3 v4 v5 e0 e1 e2 e3 e4 e5 f0' f1' f2' f3' f4' f5' q0 q1 q2
    refine Kl.drew ?_
    refine Kl.setCell ?_ hin _ _
    refine Kl.setCell ?_ hin _ _
    refine Kl.setCell ?_ hin _ _
    refine Kl.setCell ?_ hin _ _
    refine Kl.setCell ?_ hin _ _
    refine Kl.setCell ?_ hin _ _
    exact Kl.refl _ _
end Go.Proofs.YtoihekgmomjhpaaGreatDoor

/-
  Layer 9 (no walk): what is due, appended one by one: each does something, and then none is due.
-/
set_option linter.unusedVariables false
set_option linter.unusedSimpArgs false
namespace Go.Proofs.YtoihekgmomjhpaaGreatDoor
open Go.RowKit Go.MapKept Crn Nxt Ste
set_option maxRecDepth 100000
/-- The pairs that are due. -/
structure DOk (T : List Tm) (D : List Whl.ItemN) (now : Int) : Prop where
  each : ∀ p ∈ D, 0 < p.1 ∧ (p.1 : Int) ≤ now ∧ (valT T (p.2 : Int)).due = (p.1 : Int)
  apart : ∀ i j (hi : i < D.length) (hj : j < D.length), i ≠ j → D[i].2 ≠ D[j].2
  len : D.length ≤ 16
theorem dok_of {l : List Whl.ItemN} {T : List Tm} (h : WIn l T) (hT : T.length ≤ 16) {N : Nat} {now : Int} (hN : (N : Int) = now) : DOk T (W.dueBy l N) now := by
  have each : ∀ p ∈ W.dueBy l N, 0 < p.1 ∧ (p.1 : Int) ≤ now ∧ (valT T (p.2 : Int)).due = (p.1 : Int) := fun p hp => by
    obtain ⟨h1, h2⟩ := List.mem_filter.1 hp
    obtain ⟨h3, h4⟩ := (h.has p.1 p.2).1 h1
    simp only [decide_eq_true_eq] at h2
    exact ⟨h3, by omega, h4⟩
  have nd : (W.dueBy l N).Nodup := h.nodup.filter _
  refine ⟨each, fun i j hi hj hij e => ?_, Nat.le_trans (List.length_filter_le _ _) (Nat.le_trans h.len hT)⟩
  have e1 := (each _ (List.getElem_mem hi)).2.2
  have e2 := (each _ (List.getElem_mem hj)).2.2
  rw [e] at e1
  have e3 : (W.dueBy l N)[i] = (W.dueBy l N)[j] := Prod.ext (by have := e1.symm.trans e2; omega) e
  have hp := List.pairwise_iff_getElem.1 nd
  rcases Nat.lt_or_ge i j with g | g
  · exact hp i j hi hj g e3
  · exact hp j i hj hi (by omega) e3.symm
theorem due_all {l : List Whl.ItemN} {T : List Tm} {N : Nat} {now : Int} (h : DOk T (W.dueBy l N) now) : dueL T l N now 100 = (W.dueBy l N).map (dueOp T now) := by
  have hl := h.len
  unfold dueL
  rw [List.take_of_length_le (by show _ ≤ 100; omega), take_all fun q hq => decide_eq_true (h.each q hq).2.1]
/-- Behind some of them. -/
structure DI (T0 : List Tm) (D : List Whl.ItemN) (now : Int) (k : Nat) (T : List Tm) : Prop where
  keep : ∀ j (hj : j < D.length), k ≤ j → valT T (D[j].2 : Int) = valT T0 (D[j].2 : Int)
  left : ∀ t ∈ T, DueB now t → ∃ j, ∃ hj : j < D.length, k ≤ j ∧ t.id = (D[j].2 : Int)
theorem val_of {T : List Tm} (h : Up T) {t : Tm} (ht : t ∈ T) : valT T t.id = t := by unfold valT; rw [find_of h ht]; rfl
theorem di_start {l : List Whl.ItemN} {s : St} (ok : Ok s) (h : WIn l s.T) {N : Nat} {now : Int} (hN : (N : Int) = now) : DI s.T (W.dueBy l N) now 0 s.T := by
  refine ⟨fun j hj _ => rfl, fun t ht hd => ?_⟩
  have hv := val_of ok.up ht
  have h0 := (ok.tm t ht).id0
  obtain ⟨d1, d2⟩ := hd
  have hm : (t.due.toNat, t.id.toNat) ∈ l := (h.has _ _).2 ⟨by omega, by rw [show ((t.id.toNat : Nat) : Int) = t.id by omega, hv]; omega⟩
  have hm2 : (t.due.toNat, t.id.toNat) ∈ W.dueBy l N := List.mem_filter.2 ⟨hm, by simp only [decide_eq_true_eq]; omega⟩
  obtain ⟨j, hj, e⟩ := List.mem_iff_getElem.1 hm2
  exact ⟨j, hj, Nat.zero_le _, by rw [e]; show t.id = ((t.id.toNat : Nat) : Int); omega⟩
theorem di_step {s : St} {T0 : List Tm} {D : List Whl.ItemN} {now : Int} {k : Nat} (ok : Ok s) (hD : DOk T0 D now) (h : DI T0 D now k s.T) (hk : k < D.length) (ok1 : Ok (applyN s (dueOp T0 now D[k])).1) :
    (applyN s (dueOp T0 now D[k])).2 = ⟨0, (valT T0 (D[k].2 : Int)).gen, (D[k].1 : Int)⟩ ∧ DI T0 D now (k + 1) (applyN s (dueOp T0 now D[k])).1.T := by
  obtain ⟨a1, a2, a3⟩ := hD.each _ (List.getElem_mem hk)
  have hv := h.keep k hk (Nat.le_refl k)
  obtain ⟨t, ht, e1, e2⟩ := val_mem (T := s.T) (i := (D[k].2 : Int)) (by rw [hv, a3]; omega)
  have hdue : t.due = (D[k].1 : Int) := by rw [e2, hv, a3]
  have hgen : t.gen = (valT T0 (D[k].2 : Int)).gen := by rw [e2, hv]
  have hb : DueB now t := ⟨by omega, by omega⟩
  have f1 := fire_due ok ht hb.1 hb.2 (o := dueOp T0 now D[k]) rfl e1.symm hgen.symm hdue.symm rfl
  have f2 := fire_less ok ht hb (o := dueOp T0 now D[k]) rfl e1.symm hgen.symm hdue.symm rfl ok1
  refine ⟨by rw [f1.1, hgen, hdue], fun j hj hkj => ?_, fun u hu hd => ?_⟩
  · have hne : (D[j].2 : Int) ≠ (dueOp T0 now D[k]).id := fun e => hD.apart j k hj hk (by omega) (by have e3 : (D[j].2 : Int) = (D[k].2 : Int) := e; omega)
    have := h.keep j hj (by omega)
    unfold valT at this ⊢
    rw [apply_other ok _ hne, this]
  · obtain ⟨g1, g2, g3⟩ := (f2 u).1 ⟨hu, hd⟩
    obtain ⟨j, hj, hkj, e⟩ := h.left u g1 g2
    refine ⟨j, hj, ?_, e⟩
    rcases Nat.lt_or_ge k j with q | q
    · exact q
    · obtain rfl : j = k := by omega
      exact absurd (e.trans e1.symm) g3
theorem di_end {l : List Whl.ItemN} {T T0 : List Tm} {D : List Whl.ItemN} {N : Nat} {now : Int} (hN : (N : Int) = now) (h : DI T0 D now D.length T) (hl : WIn l T) (most : Int) : dueL T l N now most = [] := by
  have e : W.dueBy l N = [] := by
    unfold W.dueBy
    rw [List.filter_eq_nil_iff]
    intro p hp hd
    simp only [decide_eq_true_eq] at hd
    obtain ⟨h1, h2⟩ := (hl.has p.1 p.2).1 hp
    obtain ⟨t, ht, e1, e2⟩ := val_mem (T := T) (i := (p.2 : Int)) (by omega)
    have hdue : t.due = (p.1 : Int) := by rw [e2, h2]
    obtain ⟨j, hj, hk, _⟩ := h.left t ht ⟨by omega, by omega⟩
    omega
  unfold dueL
  rw [e]
  simp
theorem due_ok {s : St} (ok : Ok s) {D : List Whl.ItemN} {now : Int} (hn : now ≤ 1099511627776) (h : DOk s.T D now) {p : Whl.ItemN} (hp : p ∈ D) : OpOk (dueOp s.T now p) := by
  obtain ⟨a1, a2, a3⟩ := h.each p hp
  obtain ⟨t, ht, e1, e2⟩ := val_mem (T := s.T) (i := (p.2 : Int)) (by omega)
  have ht2 := ok.tm t ht
  have h1 := ht2.id1
  have h2 := ht2.gen0
  have h3 := ht2.gen1
  have h4 := ok.gens
  have hg : (valT s.T (p.2 : Int)).gen = t.gen := by rw [← e2]
  have z : i64 0 := by constructor <;> omega
  have z3 : i64 3 := by constructor <;> omega
  refine ⟨z3, z, z, ?_, ?_, ?_, z, ?_, z, Nat.zero_le _⟩
  · show i64 (p.2 : Int)
    constructor <;> omega
  · show i64 (valT s.T (p.2 : Int)).gen
    rw [hg]
    constructor <;> omega
  · show i64 (p.1 : Int)
    constructor <;> omega
  · show i64 now
    constructor <;> omega
/-- The wheel's pairs are small. -/
theorem win_small {l : List Whl.ItemN} {s : St} (ok : Ok s) (hd : DueOk s) (h : WIn l s.T) : ∀ q, q ∈ l → q.1 ≤ 1099511627776 ∧ q.2 ≤ 1048576 := fun q hq => by
  obtain ⟨h1, h2⟩ := (h.has q.1 q.2).1 hq
  obtain ⟨t, ht, e1, e2⟩ := val_mem (T := s.T) (i := (q.2 : Int)) (by omega)
  have h3 := (hd t ht).2
  have h4 := (ok.tm t ht).id1
  rw [← e2] at h2
  omega
end Go.Proofs.YtoihekgmomjhpaaGreatDoor
