/-
  Texts laid into one (a claim has 60 files at most): ONew, OAsk, OSrch, ORead, OLong, OPlain, OFind.
-/
import Derived.Test.YtoihekgmomjhpaaGreatDoorKO6
/-
  Layer 9: a new log.
-/
set_option linter.unusedVariables false
set_option linter.unusedSimpArgs false
namespace Go.Proofs.YtoihekgmomjhpaaGreatDoor
open Go.RowKit Go.MapKept Crn Nxt Ste
set_option maxRecDepth 100000
abbrev g0 : Lo := ⟨[], [], [], fun _ => [], []⟩
theorem LP.new (base b wb : Nat) (w : World) (hb : base ≤ w.heap.size) :
    LP base (((w.alloc (.map #[] 0)).alloc (.map #[] 0)).alloc (.cells #[.pointer (some ⟨b, 0, none⟩), .pointer (some ⟨wb, 0, none⟩), .slice none 0 0, .slice none 0 0, .map (some w.heap.size), .map (some (w.heap.size + 1)), .slice none 0 0] 81)) b wb ⟨w.heap.size + 2, none, 0, none, 0, w.heap.size, w.heap.size + 1, [], none, 0⟩ g0 := by
  have e2 : ((w.alloc (.map #[] 0)).alloc (.map #[] 0)).heap.size = w.heap.size + 2 := by simp
  have e1 : (w.alloc (.map #[] 0)).heap.size = w.heap.size + 1 := by simp
  have hB := Go.heap_alloc_new ((w.alloc (.map #[] 0)).alloc (.map #[] 0)) (.cells #[.pointer (some ⟨b, 0, none⟩), .pointer (some ⟨wb, 0, none⟩), .slice none 0 0, .slice none 0 0, .map (some w.heap.size), .map (some (w.heap.size + 1)), .slice none 0 0] 81)
  rw [e2] at hB
  have hM : VMap ((w.alloc (.map #[] 0)).alloc (.map #[] 0)) (w.heap.size + 1) [] := by
    have := VMap.made (w.alloc (.map #[] 0))
    rw [e1] at this
    exact this
  refine ⟨hB, World.ownsRow_nil _ _ _ _, World.ownsRow_nil _ _ _ _, ?_, ⟨fun p hp => (List.not_mem_nil hp).elim, List.Pairwise.nil⟩, ⟨hM.kept (Go.heap_alloc_old _ _ (by omega)), fun p hp => (List.not_mem_nil hp).elim, List.Pairwise.nil, fun p hp => (List.not_mem_nil hp).elim, fun _ _ => rfl, List.Pairwise.nil⟩, World.ownsRow_nil _ _ _ _, by simp⟩
  exact ((RMap.made w).kept (Go.heap_alloc_old _ _ (by simp))).kept (Go.heap_alloc_old _ _ (by omega))
set_option maxHeartbeats 2000000 in
theorem newLog_any (timers : Int) (ht : i64 timers) (w : World) (hw : topTab < w.heap.size) (br : W.Bru w) :
    Calls Tryz.prog 9 #[.int .i64 timers] w fun e w' => ∃ b wb x, e = .returned (.pointer (some ⟨x.lb, 0, none⟩)) ∧ Lx w w' b (newN timers) 0 wb 0 [] x g0 [] (fun _ => True) := by
  have mk1 := fun W => vmake rm W
  have mk2 := fun W => vmake vm W
  go_enter Tryz.func9, Tryz.ntmps9
  go_wp2_with fail
  refine (st_new timers ht w hw).mono ?_
  rintro e w1 ⟨rfl, B1, y, hS, hk, hown⟩
  have hpos : 0 < w.heap.size := by omega
  have br1 : W.Bru w1 := fun j hj => (World.cell?_of_block (w := w) (B1.block _ (by show 0 < w.heap.size; omega))).trans (br j hj)
  replace B1 := Lib.hid B1
  replace hS := Lib.hid hS
  replace hown := Lib.hid hown
  go_wp2_with fail
  refine (W.new_any w.heap.size w1 0 0 (by omega) B1.out.size hpos br1).mono ?_
  rintro e w2 ⟨rfl, hW, B2⟩
  replace hW := Lib.hid hW
  replace B2 := Lib.hid B2
  go_wp2_with fail
  go_ret
  refine ⟨w.heap.size + 3, w1.heap.size, ⟨w2.heap.size + 2, none, 0, none, 0, w2.heap.size, w2.heap.size + 1, [], none, 0⟩, rfl, ?_⟩
  have q := LP.new w.heap.size (w.heap.size + 3) w1.heap.size w2 (Nat.le_trans B1.out.size B2.out.size)
  have h2 : Lw w w2 (w.heap.size + 3) (newN timers) 0 w1.heap.size 0 [] [] (fun _ => True) :=
    ⟨⟨y, _, ⟨(hS.out.below B2.out), by rw [hk]; exact List.Perm.refl _⟩, WT_shrink hW.out, fun k e => ⟨hown.out k e, fun e2 => by have := (hS.out.lt k e).1; omega, List.not_mem_nil⟩, fun k e => ⟨e.2, List.not_mem_nil⟩⟩,
      B1.out.trans (B2.out.mono B1.out.size), fun k e => (List.not_mem_nil e).elim, hpos, fun _ _ _ _ _ => trivial, trivial⟩
  refine ⟨h2.mine (Kl.ofBelow ((((Below.refl _ _).alloc (Nat.le_refl _) _).alloc (by simp) _).alloc (by simp; omega) _)) (fun i e => ⟨.inr ?_, q.in_ i e⟩) (Stab.and (L := []) (fun _ _ _ _ h => h) (LP.stab _ _ _ _)) ⟨trivial, q⟩, fun k e => (List.not_mem_nil e).elim, fun _ _ _ _ h => h⟩
  rcases mem_ownL.1 e with e | e | e | e | e | e | e
  · simp only at e; omega
  · simp [rowOf, Value.ownBlock] at e
  · simp [rowOf, Value.ownBlock] at e
  · simp only at e; omega
  · simp only at e; omega
  · simp [rowsOf] at e
  · simp [rowOf, Value.ownBlock] at e
end Go.Proofs.YtoihekgmomjhpaaGreatDoor

/-
  Layer 9: what a log is asked: how many, where a request stands, the newest number.
-/
set_option linter.unusedVariables false
set_option linter.unusedSimpArgs false
namespace Go.Proofs.YtoihekgmomjhpaaGreatDoor
open Go.RowKit Go.MapKept Crn Nxt Ste
set_option maxRecDepth 100000
section
variable {base b wb : Nat} {w : World} {x : Pl} {g : Lo}
theorem len_any (h : LP base w b wb x g) : Calls Tryz.prog 12 #[.pointer (some ⟨x.lb, 0, none⟩)] w fun e w' => e = .returned (.int .i64 (g.ops.length : Int)) ∧ w' = w := by
  have c2 := cell_in h.box 2
  clear h
  go_enter Tryz.func12, Tryz.ntmps12
  go_wp2_with fail
  go_ret
  exact ⟨rfl, rfl⟩
theorem request_any (h : LP base w b wb x g) (c q : Int) (hc : i64 c) (hq : i64 q) : Calls Tryz.prog 17 #[.pointer (some ⟨x.lb, 0, none⟩), .int .i64 c, .int .i64 q] w fun e w' => e = .returned (.tuple #[.int .i64 (((atR g.rt c q).getD 0 : Nat) : Int), .bool (atR g.rt c q).isSome]) ∧ w' = w := by
  have c4 := cell_in h.box 4
  have hl := rlook h.req h.rok.inn h.rok.keys hc hq
  clear h hc hq
  go_enter Tryz.func17, Tryz.ntmps17
  go_wp2_with fail
  refine bodyPost_ret (results_tmp2 rfl _ _ _) rfl ?_
  exact ⟨rfl, rfl⟩
theorem newest_any (h : LP base w b wb x g) (id : Int) (hid : i64 id) (hl : (g.ver id).length ≤ 100000) : Calls Tryz.prog 24 #[.pointer (some ⟨x.lb, 0, none⟩), .int .i64 id] w fun e w' => e = .returned (.int .i64 (newestN (g.ver id) : Int)) ∧ w' = w := by
  have c5 := cell_in h.box 5
  obtain ⟨q, cap, k1, k2, k3, k4⟩ := h.ver.look id hid
  have hk := k4 w rfl
  by_cases h0 : g.ver id = []
  · rw [h0] at hk ⊢
    have hn : newestN ([] : List (Nat × Rp)) = 0 := rfl
    rw [hn]
    simp only [List.length_nil] at hk
    clear h k1 k2 k3 k4 hl h0 hn hid
    go_enter Tryz.func24, Tryz.ntmps24
    go_wp2_with fail
    go_ret
    exact ⟨rfl, rfl⟩
  · have hpos : 0 < (g.ver id).length := List.length_pos_iff.2 h0
    obtain ⟨gb, rfl, hat⟩ := k1.at (fun _ => rfl) ((g.ver id).length - 1) (by omega)
    have hv := hat 0 (.int .i64 (((g.ver id)[(g.ver id).length - 1]'(by omega)).1 : Int)) rfl
    have hn : newestN (g.ver id) = ((g.ver id)[(g.ver id).length - 1]'(by omega)).1 := by
      unfold newestN
      rw [List.getLast?_eq_some_getLast h0, List.getLast_eq_getElem]
      rfl
    rw [hn]
    rw [Nat.add_zero] at hv
    clear h k2 k3 k4 hat hn hid h0 k1
    generalize ((g.ver id)[(g.ver id).length - 1]'(by omega)).1 = v at *
    generalize (g.ver id).length = m at *
    have hm0 : ¬ (m : Int) = 0 := by omega
    have hi : (m : Int) - 1 = ((m - 1 : Nat) : Int) := by omega
    have hlt : m - 1 < m := by omega
    go_enter Tryz.func24, Tryz.ntmps24
    go_wp2_with fail
    go_ret
    exact ⟨rfl, rfl⟩
end
end Go.Proofs.YtoihekgmomjhpaaGreatDoor

/-
  Layer 9: sort.Search, for a closure that turns nothing.
-/
set_option linter.unusedVariables false
set_option linter.unusedSimpArgs false
namespace Go.Proofs.YtoihekgmomjhpaaGreatDoor
open Go.RowKit Go.MapKept Crn Nxt Ste
set_option maxRecDepth 100000
def MidP (p : Nat → Bool) (n i j : Nat) : Prop := (∀ k, k < i → p k = false) ∧ ∀ k, k < n → j ≤ k → p k = true
set_option maxHeartbeats 2000000 in
theorem searchRead_any (k1 k2 : Value) (n : Nat) (p : Nat → Bool) (w : World) (hn : n ≤ 100000) (hp : ∀ a b, a ≤ b → b < n → p a = true → p b = true)
    (hF : ∀ (i : Nat) (W : World), i < n → Below w.heap.size w W → Calls Tryz.prog 41 #[.int .i64 (i : Int), k1, k2] W fun e w' => e = .returned (.bool (p i)) ∧ Below W.heap.size W w') :
    Calls Tryz.prog 40 #[.int .i64 (n : Int), .func (.func 41) #[] #[k1, k2]] w fun e w' => (∃ i : Nat, e = .returned (.int .i64 (i : Int)) ∧ i ≤ n ∧ MidP p n i i) ∧ Below w.heap.size w w' := by
  have m0 : Hid (MidP p n 0 n) := ⟨fun k h => by omega, fun k h1 h2 => by omega⟩
  have hlo : Hid (∀ i j h, h < n → MidP p n i j → p h = false → MidP p n (h + 1) j) := fun i j h hh m e => by
    refine ⟨fun k hk => ?_, m.2⟩
    cases hx : p k with
    | false => rfl
    | true => rw [hp k h (by omega) hh hx] at e; cases e
  have hhi : Hid (∀ i j h, h < n → MidP p n i j → p h = true → MidP p n i h) := fun i j h hh m e => ⟨m.1, fun k hk hge => hp h k hge hk e⟩
  replace hF := Lib.hid hF
  clear hp
  go_enter Tryz.func40, Tryz.ntmps40
  go_wp2_with fail
  go_loopw [5, 6] (fun vi vj wr => ∃ i j : Nat, vi = .int .i64 i ∧ vj = .int .i64 j ∧ (i : Int) ≤ j ∧ (j : Int) ≤ n ∧ Hid (MidP p n i j) ∧ Hid (Below w.heap.size w wr)) (fun vi vj _ => (intOf vj - intOf vi).toNat)
  case atStart => exact ⟨0, n, rfl, rfl, by omega, by omega, m0, Below.refl _ _⟩
  case round =>
    obtain ⟨i, j, rfl, rfl, hij, hj, m1, b2⟩ := hrel
    by_cases hlt : (i : Int) < j
    · obtain ⟨h, hh⟩ : ∃ h : Nat, ((i : Int) + j) / 2 = (h : Int) := ⟨(i + j) / 2, by omega⟩
      have hhl : h < n := by omega
      have hi0 : (0 : Int) ≤ h := by omega
      go_upto_region 4 with (simp only [hh])
      have cF := Lib.hid (hF.out h wr hhl b2.out)
      have hl2 : Hid (p h = false → MidP p n (h + 1) j) := hlo.out i j h hhl m1.out
      have hh2 : Hid (p h = true → MidP p n i h) := hhi.out i j h hhl m1.out
      generalize p h = r at *
      go_wp2_with fail
      refine cF.out.mono ?_
      rintro e wc ⟨rfl, k⟩
      have b3 := Lib.hid (b2.out.trans (k.mono b2.out.size))
      clear k cF b2
      cases r with
      | false =>
        have m2 := Lib.hid (hl2.out rfl)
        go_wp2_with fail
        exact ⟨⟨h + 1, j, by go_num, rfl, by omega, by omega, m2, b3⟩, by simp [intOf]; omega⟩
      | true =>
        have m2 := Lib.hid (hh2.out rfl)
        go_wp2_with fail
        exact ⟨⟨i, h, rfl, rfl, by omega, by omega, m2, b3⟩, by simp [intOf]; omega⟩
    · go_wp2_with fail
      go_ret
      have e : j = i := by omega
      subst e
      exact ⟨⟨j, rfl, by omega, m1.out⟩, b2.out⟩
end Go.Proofs.YtoihekgmomjhpaaGreatDoor

/-
  Layer 9: Read: a timer as it was behind so many.
-/
set_option linter.unusedVariables false
set_option linter.unusedSimpArgs false
namespace Go.Proofs.YtoihekgmomjhpaaGreatDoor
open Go.RowKit Go.MapKept Crn Nxt Ste
set_option maxRecDepth 100000
theorem mid_filter {α : Type} {f : α → Bool} {V : List α} {i : Nat} (hi : i ≤ V.length) (h1 : ∀ k (hk : k < V.length), k < i → f V[k] = true) (h2 : ∀ k (hk : k < V.length), i ≤ k → f V[k] = false) : V.filter f = V.take i := by
  have e : V.filter f = (V.take i).filter f ++ (V.drop i).filter f := by rw [← List.filter_append, List.take_append_drop]
  rw [e, List.filter_eq_self.2 (fun a ha => ?_), List.filter_eq_nil_iff.2 (fun a ha => ?_), List.append_nil]
  · obtain ⟨k, hk, rfl⟩ := List.mem_iff_getElem.1 ha
    rw [List.length_drop] at hk
    rw [List.getElem_drop, h2 (i + k) (by omega) (by omega)]
    simp
  · obtain ⟨k, hk, rfl⟩ := List.mem_iff_getElem.1 ha
    rw [List.length_take] at hk
    rw [List.getElem_take]
    exact h1 k (by omega) (by omega)
/-- What is read, by the place of the first that is later. -/
theorem read_mid {V : List (Nat × Rp)} {upto : Int} {i : Nat} (hi : i ≤ V.length) (m : MidP (fun k => decide (upto < ((V.getD k (0, ⟨0, 0, 0⟩)).1 : Int))) V.length i i) :
    readN V upto = if h : 0 < i then (V[i - 1]'(by omega)).2 else ⟨6, 0, 0⟩ := by
  have hg : ∀ k (hk : k < V.length), V.getD k (0, ⟨0, 0, 0⟩) = V[k] := fun k hk => by simp [hk]
  unfold readN
  rw [mid_filter hi (fun k hk hlt => ?_) (fun k hk hge => ?_)]
  · split
    · rename_i h
      rw [List.getLast?_eq_getElem?, List.length_take, List.getElem?_take]
      rw [if_pos (by omega), show min i V.length - 1 = i - 1 by omega, List.getElem?_eq_getElem (by omega)]
      rfl
    · rename_i h
      obtain rfl : i = 0 := by omega
      rfl
  · have := m.1 k hlt
    simp only [hg k hk, decide_eq_false_iff_not] at this
    simp only [decide_eq_true_eq]
    omega
  · have := m.2 k hk hge
    simp only [hg k hk, decide_eq_true_eq] at this
    simp only [decide_eq_false_iff_not]
    omega
theorem ris_later {n : Nat} {V : List (Nat × Rp)} (h : Ris n V) (upto : Int) : ∀ a b, a ≤ b → b < V.length → decide (upto < ((V.getD a (0, ⟨0, 0, 0⟩)).1 : Int)) = true → decide (upto < ((V.getD b (0, ⟨0, 0, 0⟩)).1 : Int)) = true := fun a b hab hb e => by
  have hg : ∀ k (hk : k < V.length), V.getD k (0, ⟨0, 0, 0⟩) = V[k] := fun k hk => by simp [hk]
  rw [hg a (by omega)] at e
  rw [hg b hb]
  simp only [decide_eq_true_eq] at e ⊢
  rcases Nat.lt_or_ge a b with g | g
  · have := List.pairwise_iff_getElem.1 h.1 a b (by omega) hb g
    omega
  · obtain rfl : a = b := by omega
    exact e
/-- The closure. -/
theorem later_any (i seq m cap gb vb ub : Nat) (upto : Int) (W : World) (hi : i < m) (h1 : W.cell? ⟨vb, 0, none⟩ = some (.slice (some ⟨gb, 0, none⟩) m cap)) (h2 : W.cell? ⟨gb, i * 4, none⟩ = some (.int .i64 (seq : Int))) (h3 : W.cell? ⟨ub, 0, none⟩ = some (.int .i64 upto)) (hm : m ≤ 100000) :
    Calls Tryz.prog 41 #[.int .i64 (i : Int), .pointer (some ⟨vb, 0, none⟩), .pointer (some ⟨ub, 0, none⟩)] W fun e w' => e = .returned (.bool (decide (upto < (seq : Int)))) ∧ Below W.heap.size W w' := by
  have b0 : Hid (Below W.heap.size W W.drew) := (Below.refl _ _).drew
  have hlt : (i : Int) < m := by omega
  go_enter Tryz.func41, Tryz.ntmps41
  go_upto_region 1 with fail
  go_region_held3 (fun w' => w'.cell? ⟨vb, 0, none⟩ = some (.slice (some ⟨gb, 0, none⟩) m cap) ∧ w'.cell? ⟨gb, i * 4, none⟩ = some (.int .i64 (seq : Int)) ∧ w'.cell? ⟨ub, 0, none⟩ = some (.int .i64 upto)) (exact ⟨h1, h2, h3⟩) (fail)
  go_wp2_with fail
  go_ret
  exact ⟨rfl, b0.out⟩
set_option maxHeartbeats 2000000 in
theorem read_any {base b wb n : Nat} {w : World} {x : Pl} {g : Lo} (h : LP base w b wb x g) (id upto : Int) (hid : i64 id) (hl : (g.ver id).length ≤ 100000) (hr : Ris n (g.ver id)) :
    Calls Tryz.prog 19 #[.pointer (some ⟨x.lb, 0, none⟩), .int .i64 id, .int .i64 upto] w fun e w' => e = .returned (rpV (readN (g.ver id) upto)) ∧ Below w.heap.size w w' := by
  obtain ⟨q, cap, k1, k2, k3, k4⟩ := h.ver.look id hid
  have hvr := h.ver.lt
  have hlb := lt_in h.box
  have k5 : Hid (∀ W, Below w.heap.size w W → W.cell? ⟨x.lb, 5, none⟩ = some (.map (some x.vr)) ∧ (Instr.lookup vm (.map (some x.vr)) (.int .i64 id) false).run Tryz.prog W = .ok (.slice q (g.ver id).length cap) W) := fun W k => ⟨cell_in ((k.block _ hlb).trans h.box) 5, k4 W (k.block _ hvr.1)⟩
  have k6 : Hid (∀ i (hi : i < (g.ver id).length), ∃ gb, q = some ⟨gb, 0, none⟩ ∧ ∀ W, Below w.heap.size w W → W.cell? ⟨gb, i * 4, none⟩ = some (.int .i64 (((g.ver id)[i].1 : Nat) : Int)) ∧ W.cell? ⟨gb, i * 4 + 1, none⟩ = some (.int .i64 (g.ver id)[i].2.err) ∧ W.cell? ⟨gb, i * 4 + 2, none⟩ = some (.int .i64 (g.ver id)[i].2.gen) ∧ W.cell? ⟨gb, i * 4 + 3, none⟩ = some (.int .i64 (g.ver id)[i].2.due)) := fun i hi => by
    obtain ⟨gb, e, hat⟩ := k1.at (fun _ => rfl) i hi
    have hgb : gb < w.heap.size := (hvr.2 gb (k2 gb (by rw [e]; simp [rowOf, Value.ownBlock]))).2
    refine ⟨gb, e, fun W k => ?_⟩
    have kc : ∀ o v, w.cell? ⟨gb, o, none⟩ = some v → W.cell? ⟨gb, o, none⟩ = some v := fun o v hv => (World.cell?_of_block (w := w) (k.block _ hgb)).trans hv
    exact ⟨kc _ _ (hat 0 _ rfl), kc _ _ (hat 1 _ rfl), kc _ _ (hat 2 _ rfl), kc _ _ (hat 3 _ rfl)⟩
  have hmid : Hid (∀ i (hi : i ≤ (g.ver id).length), MidP (fun k => decide (upto < (((g.ver id).getD k (0, ⟨0, 0, 0⟩)).1 : Int))) (g.ver id).length i i → readN (g.ver id) upto = if 0 < i then ((g.ver id).getD (i - 1) (0, ⟨0, 0, 0⟩)).2 else ⟨6, 0, 0⟩) := fun i hi m => by
    rw [read_mid hi m]
    split
    · rw [List.getD_eq_getElem?_getD, List.getElem?_eq_getElem (by omega)]; rfl
    · rfl
  have hmon := Lib.hid (ris_later hr upto)
  generalize readN (g.ver id) upto = R at *
  generalize g.ver id = V at *
  clear k1 k2 k3 k4 hvr hlb h hr
  have b1 : Hid (Below w.heap.size w ((w.alloc (.cells #[.int .i64 upto] 3)).alloc (.cells #[.int .i64 0, .int .i64 0, .int .i64 0] 34))) := ((Below.refl _ _).alloc (Nat.le_refl _) _).alloc (by simp) _
  obtain ⟨c5, hlk⟩ := k5.out _ b1.out
  go_enter Tryz.func19, Tryz.ntmps19
  go_wp2_with fail
  have hU : (((w.alloc (.cells #[.int .i64 upto] 3)).alloc (.cells #[.int .i64 0, .int .i64 0, .int .i64 0] 34)).alloc (.cells #[.slice q V.length cap] 93)).heap[w.heap.size]? = some (.cells #[.int .i64 upto] 3) := (Go.heap_alloc_old _ _ (by simp; omega)).trans ((Go.heap_alloc_old _ _ (by simp)).trans (Go.heap_alloc_new w _))
  have hR : (((w.alloc (.cells #[.int .i64 upto] 3)).alloc (.cells #[.int .i64 0, .int .i64 0, .int .i64 0] 34)).alloc (.cells #[.slice q V.length cap] 93)).heap[w.heap.size + 1]? = some (.cells #[.int .i64 0, .int .i64 0, .int .i64 0] 34) := (Go.heap_alloc_old _ _ (by simp)).trans (by
    have := Go.heap_alloc_new (w.alloc (.cells #[.int .i64 upto] 3)) (.cells #[.int .i64 0, .int .i64 0, .int .i64 0] 34)
    simpa using this)
  have hV : (((w.alloc (.cells #[.int .i64 upto] 3)).alloc (.cells #[.int .i64 0, .int .i64 0, .int .i64 0] 34)).alloc (.cells #[.slice q V.length cap] 93)).heap[w.heap.size + 1 + 1]? = some (.cells #[.slice q V.length cap] 93) := by
    have := Go.heap_alloc_new ((w.alloc (.cells #[.int .i64 upto] 3)).alloc (.cells #[.int .i64 0, .int .i64 0, .int .i64 0] 34)) (.cells #[.slice q V.length cap] 93)
    simpa using this
  have b3 : Hid (Below w.heap.size w (((w.alloc (.cells #[.int .i64 upto] 3)).alloc (.cells #[.int .i64 0, .int .i64 0, .int .i64 0] 34)).alloc (.cells #[.slice q V.length cap] 93))) := b1.out.alloc (by simp; omega) _
  clear b1 c5 hlk k5
  generalize ((w.alloc (.cells #[.int .i64 upto] 3)).alloc (.cells #[.int .i64 0, .int .i64 0, .int .i64 0] 34)).alloc (.cells #[.slice q V.length cap] 93) = W0 at *
  refine (searchRead_any _ _ V.length (fun k => decide (upto < ((V.getD k (0, ⟨0, 0, 0⟩)).1 : Int))) W0 hl hmon.out (fun i W hi k => ?_)).mono ?_
  · obtain ⟨gb, e, hc⟩ := k6.out i hi
    have hV2 := (k.block _ (lt_in hV)).trans hV
    rw [e] at hV2
    refine (later_any i V[i].1 V.length cap gb _ _ upto W hi (cell_in hV2 0) (hc W (b3.out.trans (k.mono b3.out.size))).1 (cell_in ((k.block _ (lt_in hU)).trans hU) 0) hl).mono fun e w' ⟨he, hb⟩ => ⟨?_, hb⟩
    rw [he]
    simp [hi]
  rintro e W1 ⟨⟨i, rfl, hi, hm⟩, kb⟩
  have hrd := hmid.out i hi hm
  have b4 := Lib.hid (b3.out.trans (kb.mono b3.out.size))
  have hR1 := (kb.block _ (lt_in hR)).trans hR
  have hV1 := cell_in ((kb.block _ (lt_in hV)).trans hV) 0
  have e0 := cell_in hR1 0
  have e1 := cell_in hR1 1
  have e2 := cell_in hR1 2
  have f0 := free_in hR1 0
  have f1 := free_in hR1 1
  have f2 := free_in hR1 2
  have hend : Hid (∀ a b c : Value, Below w.heap.size w (((W1.setCell ⟨w.heap.size + 1, 0, none⟩ a).setCell ⟨w.heap.size + 1, 1, none⟩ b).setCell ⟨w.heap.size + 1, 2, none⟩ c)) := fun a b c =>
    b4.out.trans ((Kl.setCell (Kl.setCell (Kl.setCell (Kl.refl [w.heap.size + 1] W1) (by simp) 0 a) (by simp) 1 b) (by simp) 2 c).below (fun k e => by simp at e; omega) b4.out.size)
  clear hR hU hV hmid hmon hm kb b3
  by_cases h0 : i = 0
  · subst h0
    rw [if_neg (by omega)] at hrd
    subst hrd
    clear k6 hV1 hR1
    go_wp2_with fail
    refine bodyPost_ret (v := rpV ⟨6, 0, 0⟩) ?_ rfl ?_
    · rw [results_cellA rfl]
      go_simp
    · exact ⟨rfl, hend.out _ _ _⟩
  · obtain ⟨gb, rfl, hc⟩ := k6.out (i - 1) (by omega)
    obtain ⟨-, c1, c2, c3⟩ := hc W1 b4.out
    rw [if_pos (by omega), List.getD_eq_getElem?_getD, List.getElem?_eq_getElem (by omega)] at hrd
    simp only [Option.getD_some] at hrd
    rw [← hrd] at c1 c2 c3
    clear hrd hc k6 hR1
    have hm0 : ¬ (i : Int) = 0 := by omega
    have hi1 : (i : Int) - 1 = ((i - 1 : Nat) : Int) := by omega
    have hlt : i - 1 < V.length := by omega
    generalize V.length = m at *
    obtain ⟨re, rg, rd⟩ := R
    simp only at c1 c2 c3
    go_wp2_with fail
    refine bodyPost_ret (v := rpV ⟨re, rg, rd⟩) ?_ rfl ?_
    · rw [results_cellA rfl]
      go_simp
    · exact ⟨rfl, hend.out _ _ _⟩
end Go.Proofs.YtoihekgmomjhpaaGreatDoor

/-
  Layer 9: an operation whose text is too long is refused; what a log that is none answers.
-/
set_option linter.unusedVariables false
set_option linter.unusedSimpArgs false
namespace Go.Proofs.YtoihekgmomjhpaaGreatDoor
open Go.RowKit Go.MapKept Crn Nxt Ste
set_option maxRecDepth 100000
set_option maxHeartbeats 2000000 in
theorem appendLong_any {base b wb : Nat} {w : World} {x : Pl} {g : Lo} (h : LP base w b wb x g) (o : OpN) (hlen : g.ops.length < 2000) (hcr : 256 < o.cron.size) :
    Calls Tryz.prog 10 #[.pointer (some ⟨x.lb, 0, none⟩), opV o] w fun e w' => e = .returned (.tuple #[.int .i64 0, rpV ⟨0, 0, 0⟩, .int .i64 15]) ∧ Below w.heap.size w w' := by
  have hlb := lt_in h.box
  have c2 : ((w.alloc (.cells (opC o) 31)).alloc (.cells #[.int .i64 0, .int .i64 0, .int .i64 0] 34)).cell? ⟨x.lb, 2, none⟩ = some (.slice x.op g.ops.length x.oc) := cell_in ((Go.heap_alloc_old _ _ (by simp; omega)).trans ((Go.heap_alloc_old _ _ hlb).trans h.box)) 2
  have hO : ((w.alloc (.cells (opC o) 31)).alloc (.cells #[.int .i64 0, .int .i64 0, .int .i64 0] 34)).heap[w.heap.size]? = some (.cells (opC o) 31) := (Go.heap_alloc_old _ _ (by simp)).trans (Go.heap_alloc_new w _)
  have c9 := cell_in hO 9
  have hlt : (g.ops.length : Int) < 2000 := by omega
  have hcr2 : (256 : Int) < o.cron.size := by omega
  have hend : Hid (Below w.heap.size w ((w.alloc (.cells (opC o) 31)).alloc (.cells #[.int .i64 0, .int .i64 0, .int .i64 0] 34))) := ((Below.refl _ _).alloc (Nat.le_refl _) _).alloc (by simp) _
  obtain ⟨okind, oclient, oreq, oid, ogen, oocc, odue, ostamp, oepoch, ocron⟩ := o
  simp only at *
  clear h hO hcr hlen hlb
  go_enter Tryz.func10, Tryz.ntmps10
  go_wp2_with fail
  refine bodyPost_ret (v := .tuple #[.int .i64 0, rpV ⟨0, 0, 0⟩, .int .i64 15]) ?_ rfl ?_
  · rw [results_tmp_cell_tmp rfl]
    go_simp
    try exact ⟨rfl, rfl, rfl⟩
  · exact ⟨rfl, hend.out⟩
theorem lenNil (w : World) : Calls Tryz.prog 12 #[.pointer none] w fun e w' => e = .returned (.int .i64 0) ∧ w' = w := by
  go_enter Tryz.func12, Tryz.ntmps12
  go_wp2_with fail
  go_ret
  exact ⟨rfl, rfl⟩
theorem requestNil (w : World) (c q : Int) : Calls Tryz.prog 17 #[.pointer none, .int .i64 c, .int .i64 q] w fun e w' => e = .returned (.tuple #[.int .i64 0, .bool false]) ∧ w' = w := by
  go_enter Tryz.func17, Tryz.ntmps17
  go_wp2_with fail
  refine bodyPost_ret (results_tmp2 rfl _ _ _) rfl ?_
  exact ⟨rfl, rfl⟩
theorem newestNil (w : World) (id : Int) : Calls Tryz.prog 24 #[.pointer none, .int .i64 id] w fun e w' => e = .returned (.int .i64 0) ∧ w' = w := by
  go_enter Tryz.func24, Tryz.ntmps24
  go_wp2_with fail
  go_ret
  exact ⟨rfl, rfl⟩
theorem timersNil (w : World) : Calls Tryz.prog 14 #[.pointer none] w fun e w' => e = .returned (.slice none 0 0) ∧ w' = w := by
  go_enter Tryz.func14, Tryz.ntmps14
  go_wp2_with fail
  go_ret
  exact ⟨rfl, rfl⟩
theorem dueNil (w : World) (now most : Int) : Calls Tryz.prog 21 #[.pointer none, .int .i64 now, .int .i64 most] w fun e w' => e = .returned (.slice none 0 0) ∧ w' = w := by
  go_enter Tryz.func21, Tryz.ntmps21
  go_wp2_with fail
  go_ret
  exact ⟨rfl, rfl⟩
theorem fromNil (w : World) (a b : Int) : Calls Tryz.prog 23 #[.pointer none, .int .i64 a, .int .i64 b] w fun e w' => e = .returned (.slice none 0 0) ∧ w' = w := by
  go_enter Tryz.func23, Tryz.ntmps23
  go_wp2_with fail
  go_ret
  exact ⟨rfl, rfl⟩
theorem missingNil (w : World) (a : Int) : Calls Tryz.prog 38 #[.pointer none, .int .i64 a] w fun e w' => e = .returned (.int .i64 12) ∧ w' = w := by
  go_enter Tryz.func38, Tryz.ntmps38
  go_wp2_with fail
  go_ret
  exact ⟨rfl, rfl⟩
theorem firesNil (w : World) (a b c d : Int) : Calls Tryz.prog 25 #[.pointer none, .int .i64 a, .int .i64 b, .int .i64 c, .int .i64 d] w fun e w' => e = .returned (.tuple #[.slice none 0 0, .int .i64 0]) ∧ Below w.heap.size w w' := by
  go_enter Tryz.func25, Tryz.ntmps25
  go_wp2_with fail
  refine bodyPost_ret (results_tmp2 rfl _ _ _) rfl ?_
  exact ⟨rfl, ((Below.refl _ _).alloc (Nat.le_refl _) _).alloc (by simp) _⟩
theorem readNil (w : World) (a b : Int) : Calls Tryz.prog 19 #[.pointer none, .int .i64 a, .int .i64 b] w fun e w' => e = .returned (rpV ⟨12, 0, 0⟩) ∧ Below w.heap.size w w' := by
  go_enter Tryz.func19, Tryz.ntmps19
  go_wp2_with fail
  refine bodyPost_ret (v := rpV ⟨12, 0, 0⟩) ?_ rfl ?_
  · rw [results_cellA rfl]
    go_simp
  · exact ⟨rfl, ((Below.refl _ _).alloc (Nat.le_refl _) _).alloc (by simp) _⟩
theorem appendNil (w : World) (o : OpN) : Calls Tryz.prog 10 #[.pointer none, opV o] w fun e w' => e = .returned (.tuple #[.int .i64 0, rpV ⟨0, 0, 0⟩, .int .i64 12]) ∧ Below w.heap.size w w' := by
  go_enter Tryz.func10, Tryz.ntmps10
  go_wp2_with fail
  refine bodyPost_ret (v := .tuple #[.int .i64 0, rpV ⟨0, 0, 0⟩, .int .i64 12]) ?_ rfl ?_
  · rw [results_tmp_cell_tmp rfl]
    go_simp
    try exact ⟨rfl, rfl, rfl⟩
  · exact ⟨rfl, ((Below.refl _ _).alloc (Nat.le_refl _) _).alloc (by simp) _⟩
theorem opNil (w : World) (a : Int) : Calls Tryz.prog 15 #[.pointer none, .int .i64 a] w fun e w' => e = .returned (.tuple #[opV ⟨0, 0, 0, 0, 0, 0, 0, 0, 0, ⟨#[]⟩⟩, .int .i64 12]) ∧ Below w.heap.size w w' := by
  go_enter Tryz.func15, Tryz.ntmps15
  go_wp2_with fail
  refine (missingNil _ _).mono ?_
  rintro e w1 ⟨rfl, rfl⟩
  go_wp2_with fail
  refine bodyPost_ret (v := .tuple #[opV ⟨0, 0, 0, 0, 0, 0, 0, 0, 0, ⟨#[]⟩⟩, .int .i64 12]) ?_ rfl ?_
  · rw [results_cell_tmp rfl]
    go_simp
    try exact ⟨rfl, rfl, rfl, rfl, rfl, rfl, rfl, rfl, rfl, rfl⟩
  · exact ⟨rfl, (Below.refl _ _).alloc (Nat.le_refl _) _⟩
theorem replyNil (w : World) (a : Int) : Calls Tryz.prog 16 #[.pointer none, .int .i64 a] w fun e w' => e = .returned (.tuple #[rpV ⟨0, 0, 0⟩, .int .i64 12]) ∧ Below w.heap.size w w' := by
  go_enter Tryz.func16, Tryz.ntmps16
  go_wp2_with fail
  refine (missingNil _ _).mono ?_
  rintro e w1 ⟨rfl, rfl⟩
  go_wp2_with fail
  refine bodyPost_ret (v := .tuple #[rpV ⟨0, 0, 0⟩, .int .i64 12]) ?_ rfl ?_
  · rw [results_cell_tmp rfl]
    go_simp
    try exact ⟨rfl, rfl, rfl⟩
  · exact ⟨rfl, (Below.refl _ _).alloc (Nat.le_refl _) _⟩
end Go.Proofs.YtoihekgmomjhpaaGreatDoor

/-
  Layer 9 (no program's walk): what an operation leaves of a log, in plain numbers: all due stay in their range; the versions are those of 'verN'.
-/
set_option linter.unusedVariables false
namespace Go.Proofs.YtoihekgmomjhpaaGreatDoor
open Go.RowKit Go.MapKept Crn Nxt Ste
def DueOk (s : St) : Prop := ∀ t ∈ s.T, 0 ≤ t.due ∧ t.due ≤ 1099511627776
theorem dueOk_new (timers : Int) : DueOk (newN timers) := fun t h => (List.not_mem_nil h).elim
theorem dueOk_set {s : St} (h : DueOk s) (o : OpN) : DueOk (setN s o).1 := by
  unfold setN
  split
  · exact h
  split
  · exact h
  split
  · exact h
  · rename_i h1 _ _
    intro t ht
    rcases (mem_put (fun u hu => (mem_away.1 hu).2)).1 ht with rfl | g
    · exact dueN_range (by simpa using h1)
    · exact h t (mem_away.1 g).1
theorem dueOk_change {s : St} (h : DueOk s) (o : OpN) : DueOk (changeN s o).1 := by
  unfold changeN
  split
  · exact dueOk_set h o
  · unfold cancelN
    split
    · exact h
    · exact fun t ht => h t (mem_away.1 ht).1
theorem dueOk_step {s : St} (ok : Ok s) (h : DueOk s) (o : OpN) : DueOk (applyN s o).1 := by
  unfold applyN
  split
  · unfold askN
    split
    · split
      · exact h
      split
      · exact h
      · exact dueOk_change h o
    · split
      · exact h
      · exact dueOk_change h o
  split
  · unfold fireN
    split
    · exact h
    split
    · exact h
    · rename_i t ht
      have hid := (find_some ht).2
      intro u hu
      simp only at hu
      split at hu
      · exact h u (mem_away.1 hu).1
      · rcases (mem_put (fun v hv => by show v.id ≠ t.id; rw [hid]; exact (mem_away.1 hv).2)).1 hu with rfl | g
        · have := afterN_range t.cron (max o.occ o.stamp)
          exact ⟨this.1, by show afterN t.cron (max o.occ o.stamp) ≤ _; omega⟩
        · exact h u (mem_away.1 g).1
  · exact h
theorem val_iff {s0 s1 : St} (h0 : Ok s0) (h1 : Ok s1) (id : Int) : valT s1.T id = valT s0.T id ↔ find id s1.T = find id s0.T := by
  have hz : ∀ {s : St}, Ok s → ∀ t, find id s.T = some t → t ≠ zTm := fun h t ht e => by
    have := (h.tm t (find_some ht).1).gen0
    rw [e] at this
    exact absurd this (by decide)
  unfold valT
  cases e1 : find id s1.T with
  | none =>
    cases e0 : find id s0.T with
    | none => simp
    | some t => simp only [Option.getD_none, Option.getD_some, reduceCtorEq, iff_false]; exact fun e => hz h0 t e0 e.symm
  | some u =>
    cases e0 : find id s0.T with
    | none => simp only [Option.getD_none, Option.getD_some, reduceCtorEq, iff_false]; exact hz h1 u e1
    | some t => simp
theorem readT_eq (s : St) (id : Int) : readT s.T id = asRead s id := by
  unfold readT asRead getE hasT valT
  cases find id s.T with
  | none => rfl
  | some t => rfl
theorem appG_ver {s : St} (ok : Ok s) (o : OpN) (ok1 : Ok (applyN s o).1) (g : Lo) : (appG g s o).ver = verN s o g.ops.length g.ver := by
  funext k
  unfold appG keepV verN
  simp only
  by_cases hq : valT (applyN s o).1.T o.id = valT s.T o.id
  · rw [if_pos hq]
    have e := (val_iff ok ok1 o.id).1 hq
    rw [if_neg (fun h => h.2 e)]
  · rw [if_neg hq]
    have e : find o.id (applyN s o).1.T ≠ find o.id s.T := fun e => hq ((val_iff ok ok1 o.id).2 e)
    simp only [verPut, readT_eq, List.length_append, List.length_singleton]
    by_cases hk : k = o.id
    · subst hk
      rw [if_pos rfl, if_pos ⟨rfl, e⟩]
    · rw [if_neg hk, if_neg (fun h => hk h.1)]
theorem appG_ops (g : Lo) (s : St) (o : OpN) : (appG g s o).ops = g.ops ++ [o] ∧ (appG g s o).rps = g.rps ++ [(applyN s o).2] ∧ (appG g s o).rt = addR g.rt o (g.ops.length + 1) := by
  unfold appG
  refine ⟨(keepV_ops _ _ _ _).1, (keepV_ops _ _ _ _).2.1, (keepV_ops _ _ _ _).2.2.1.trans ?_⟩
  simp
theorem appG_fires (g : Lo) (s : St) (o : OpN) : (appG g s o).fires = g.fires ++ fireOf o (applyN s o).2 (g.ops.length + 1) (valT s.T o.id).client := by
  unfold appG
  simp only [(keepV_ops _ _ _ _).1, (keepV_ops _ _ _ _).2.2.2, List.length_append, List.length_singleton]
end Go.Proofs.YtoihekgmomjhpaaGreatDoor

/-
  Layer 9: Fire's search.
-/
set_option linter.unusedVariables false
set_option linter.unusedSimpArgs false
namespace Go.Proofs.YtoihekgmomjhpaaGreatDoor
open Go.RowKit Go.MapKept Crn Nxt Ste
set_option maxRecDepth 100000
set_option maxHeartbeats 2000000 in
theorem searchFire_any (k1 k2 : Value) (n : Nat) (p : Nat → Bool) (w : World) (hn : n ≤ 100000) (hp : ∀ a b, a ≤ b → b < n → p a = true → p b = true)
    (hF : ∀ (i : Nat) (W : World), i < n → Below w.heap.size w W → Calls Tryz.prog 46 #[.int .i64 (i : Int), k1, k2] W fun e w' => e = .returned (.bool (p i)) ∧ Below W.heap.size W w') :
    Calls Tryz.prog 40 #[.int .i64 (n : Int), .func (.func 46) #[] #[k1, k2]] w fun e w' => (∃ i : Nat, e = .returned (.int .i64 (i : Int)) ∧ i ≤ n ∧ MidP p n i i) ∧ Below w.heap.size w w' := by
  have m0 : Hid (MidP p n 0 n) := ⟨fun k h => by omega, fun k h1 h2 => by omega⟩
  have hlo : Hid (∀ i j h, h < n → MidP p n i j → p h = false → MidP p n (h + 1) j) := fun i j h hh m e => by
    refine ⟨fun k hk => ?_, m.2⟩
    cases hx : p k with
    | false => rfl
    | true => rw [hp k h (by omega) hh hx] at e; cases e
  have hhi : Hid (∀ i j h, h < n → MidP p n i j → p h = true → MidP p n i h) := fun i j h hh m e => ⟨m.1, fun k hk hge => hp h k hge hk e⟩
  replace hF := Lib.hid hF
  clear hp
  go_enter Tryz.func40, Tryz.ntmps40
  go_wp2_with fail
  go_loopw [5, 6] (fun vi vj wr => ∃ i j : Nat, vi = .int .i64 i ∧ vj = .int .i64 j ∧ (i : Int) ≤ j ∧ (j : Int) ≤ n ∧ Hid (MidP p n i j) ∧ Hid (Below w.heap.size w wr)) (fun vi vj _ => (intOf vj - intOf vi).toNat)
  case atStart => exact ⟨0, n, rfl, rfl, by omega, by omega, m0, Below.refl _ _⟩
  case round =>
    obtain ⟨i, j, rfl, rfl, hij, hj, m1, b2⟩ := hrel
    by_cases hlt : (i : Int) < j
    · obtain ⟨h, hh⟩ : ∃ h : Nat, ((i : Int) + j) / 2 = (h : Int) := ⟨(i + j) / 2, by omega⟩
      have hhl : h < n := by omega
      have hi0 : (0 : Int) ≤ h := by omega
      go_upto_region 4 with (simp only [hh])
      have cF := Lib.hid (hF.out h wr hhl b2.out)
      have hl2 : Hid (p h = false → MidP p n (h + 1) j) := hlo.out i j h hhl m1.out
      have hh2 : Hid (p h = true → MidP p n i h) := hhi.out i j h hhl m1.out
      generalize p h = r at *
      go_wp2_with fail
      refine cF.out.mono ?_
      rintro e wc ⟨rfl, k⟩
      have b3 := Lib.hid (b2.out.trans (k.mono b2.out.size))
      clear k cF b2
      cases r with
      | false =>
        have m2 := Lib.hid (hl2.out rfl)
        go_wp2_with fail
        exact ⟨⟨h + 1, j, by go_num, rfl, by omega, by omega, m2, b3⟩, by simp [intOf]; omega⟩
      | true =>
        have m2 := Lib.hid (hh2.out rfl)
        go_wp2_with fail
        exact ⟨⟨i, h, rfl, rfl, by omega, by omega, m2, b3⟩, by simp [intOf]; omega⟩
    · go_wp2_with fail
      go_ret
      have e : j = i := by omega
      subst e
      exact ⟨⟨j, rfl, by omega, m1.out⟩, b2.out⟩
/-- The closure. -/
theorem fireAt_any (i m cap gb lb vb ub : Nat) (fs seq : Int) (W : World) (hi : i < m) (h0 : W.cell? ⟨vb, 0, none⟩ = some (.pointer (some ⟨lb, 0, none⟩))) (h1 : W.cell? ⟨lb, 6, none⟩ = some (.slice (some ⟨gb, 0, none⟩) m cap)) (h2 : W.cell? ⟨gb, i * 6, none⟩ = some (.int .i64 fs)) (h3 : W.cell? ⟨ub, 0, none⟩ = some (.int .i64 seq)) (hm : m ≤ 100000) :
    Calls Tryz.prog 46 #[.int .i64 (i : Int), .pointer (some ⟨vb, 0, none⟩), .pointer (some ⟨ub, 0, none⟩)] W fun e w' => e = .returned (.bool (decide (seq ≤ fs))) ∧ Below W.heap.size W w' := by
  have b0 : Hid (Below W.heap.size W W.drew) := (Below.refl _ _).drew
  have hlt : (i : Int) < m := by omega
  go_enter Tryz.func46, Tryz.ntmps46
  go_upto_region 1 with fail
  go_region_held3 (fun w' => w'.cell? ⟨vb, 0, none⟩ = some (.pointer (some ⟨lb, 0, none⟩)) ∧ w'.cell? ⟨lb, 6, none⟩ = some (.slice (some ⟨gb, 0, none⟩) m cap) ∧ w'.cell? ⟨gb, i * 6, none⟩ = some (.int .i64 fs) ∧ w'.cell? ⟨ub, 0, none⟩ = some (.int .i64 seq)) (exact ⟨h0, h1, h2, h3⟩) (fail)
  go_wp2_with fail
  go_ret
  exact ⟨rfl, b0.out⟩
end Go.Proofs.YtoihekgmomjhpaaGreatDoor
