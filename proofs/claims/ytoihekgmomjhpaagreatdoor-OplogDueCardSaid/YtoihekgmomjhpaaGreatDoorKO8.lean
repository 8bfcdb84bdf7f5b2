/-
  Texts laid into one (a claim has 60 files at most): ODue, OInv, OAwake.
-/
import Derived.Test.YtoihekgmomjhpaaGreatDoorKO7
import Derived.Test.YtoihekgmomjhpaaGreatDoorKT2
/-
  Layer 9: Due: the fires that are due, by the wheel.
-/
set_option linter.unusedVariables false
set_option linter.unusedSimpArgs false
namespace Go.Proofs.YtoihekgmomjhpaaGreatDoor
open Go.RowKit Go.MapKept Crn Nxt Ste
set_option maxRecDepth 100000
section
variable {w0 w w' : World} {b c wb now : Nat} {s : St} {l : List Whl.ItemN} {x : Pl} {g : Lo} {M : List Nat} {PP : World → Prop}
/-- The call's own blocks turn, and others come to them. -/
theorem Lx.re (h : Lx w0 w b s c wb now l x g M PP) (k : Kl M w w') {N : List Nat} {QQ : World → Prop} (hN : ∀ i, i ∈ N → (i ∈ M ∨ w.heap.size ≤ i) ∧ i < w'.heap.size) (st : Stab N QQ) (q : QQ w') : Lx w0 w' b s c wb now l x g N QQ := by
  refine ⟨h.lw.mine (k.mono fun i hi => .inl (List.mem_append.2 (.inl hi))) (fun i hi => ?_) (st.and (LP.stab _ _ _ _)) ⟨q, h.lp.kept fun i hi => k.block i (h.lp.in_ i hi) (fun e => h.far i e hi)⟩, fun i hi e => ?_, st⟩
  · rcases List.mem_append.1 hi with e | e
    · rcases hN i e with ⟨f | f, f2⟩
      · exact ⟨.inl (List.mem_append.2 (.inl f)), f2⟩
      · exact ⟨.inr f, f2⟩
    · exact ⟨.inl (List.mem_append.2 (.inr e)), Nat.lt_of_lt_of_le (h.lw.lt i (List.mem_append.2 (.inr e))).2 k.size⟩
  · rcases (hN i hi).1 with f | f
    · exact h.far i f e
    · have := h.lp.in_ i e
      omega
/-- Blocks that a call made. -/
theorem Lx.grow (h : Lx w0 w b s c wb now l x g M PP) (k : Below w.heap.size w w') {N : List Nat} {QQ : World → Prop} (hN : ∀ i, i ∈ N → w.heap.size ≤ i ∧ i < w'.heap.size) (st : Stab N QQ) (q : QQ w') : Lx w0 w' b s c wb now l x g (N ++ M) (fun W => QQ W ∧ PP W) := by
  have hm : ∀ i, i ∈ M → i < w.heap.size := fun i hi => (h.lw.lt i (List.mem_append.2 (.inl hi))).2
  refine h.re (Kl.ofBelow k) (fun i hi => ?_) (st.and h.st) ⟨q, h.st w w' k.size (fun i hi => k.block i (hm i hi)) h.pp⟩
  rcases List.mem_append.1 hi with e | e
  · exact ⟨.inr (hN i e).1, (hN i e).2⟩
  · exact ⟨.inl e, Nat.lt_of_lt_of_le (hm i e) k.size⟩
/-- Some of them are let go. -/
theorem Lx.less (h : Lx w0 w b s c wb now l x g M PP) {N : List Nat} {QQ : World → Prop} (hN : ∀ i, i ∈ N → i ∈ M) (st : Stab N QQ) (q : QQ w) : Lx w0 w b s c wb now l x g N QQ :=
  h.re (Kl.refl _ _) (fun i hi => ⟨.inl (hN i hi), (h.lw.lt i (List.mem_append.2 (.inl (hN i hi)))).2⟩) st q
theorem Lx.advance (h : Lx w0 w b s c wb now l x g M PP) (n : Int) :
    Calls Tryz.prog 42 #[.pointer (some ⟨wb, 0, none⟩), .int .i64 n] w fun e w' => ∃ v, e = .returned v ∧ Lx w0 w' b s c wb (max now (min n 1099511627776).toNat) l x g M PP :=
  (h.lw.advance n).mono fun e w' ⟨v, he, k⟩ => ⟨v, he, k, h.far, h.st⟩
end
theorem stab_row {α : Type} (f : α → Array Value) (T k base : Nat) (p : Option Addr) (cap : Nat) (l : List α) : Stab (rowOf p) (fun W => SRow f T k base W p cap l) := fun w w' _ hb h => h.kept hb
theorem stab_rw (base : Nat) (a : Option Addr) (n cap : Nat) (l : List Whl.ItemN) (hn : n = l.length) : Stab (rowOf a) (fun V => W.Rw base V (.slice a n cap) l) := fun w w' _ hb h => by
  subst hn
  exact row_same h fun g hg => hb g (own_row.1 hg)
/-- What a timer that is due fires. -/
def dueOp (T : List Tm) (n : Int) (p : Whl.ItemN) : OpN := ⟨3, 0, 0, (p.2 : Int), (valT T (p.2 : Int)).gen, (p.1 : Int), 0, n, 0, ⟨#[]⟩⟩
def dueL (T : List Tm) (l : List Whl.ItemN) (now : Nat) (n most : Int) : List OpN := (((W.dueBy l now).take most.toNat).takeWhile fun p => decide ((p.1 : Int) ≤ n)).map (dueOp T n)
section
variable {w0 w w' : World} {b c wb now : Nat} {s : St} {l : List Whl.ItemN} {x : Pl} {g : Lo} {M : List Nat} {PP : World → Prop}
/-- A row of the call's own has one more. -/
theorem Lx.more {α : Type} {f : α → Array Value} {T k base : Nat} {W w8 : World} {p : Option Addr} {cap n : Nat} {L : List α} {N : List Nat} {QQ : World → Prop} (hL : L.length = n)
    (h : Lx w0 W b s c wb now l x g (rowOf p ++ N) (fun V => SRow f T k base V p cap L ∧ QQ V)) (st : Stab N QQ) (hN : ∀ i, i ∈ N → i ∉ rowOf p) (y : α) {v' : Value}
    (g8 : w8.ownsRow base T k v' (n + 1) (flatS f L ++ (f y).toList)) (gr : W.grownBy w8 (Value.slice p n cap).ownBlock) (ho : v'.ownBlock = (Value.slice p n cap).ownBlock ∨ v'.ownBlock = some W.heap.size) :
    ∃ p' cap', v' = .slice p' (n + 1) cap' ∧ (∀ i, i ∈ N → i ∉ rowOf p') ∧ Lx w0 w8 b s c wb now l x g (rowOf p' ++ N) (fun V => SRow f T k base V p' cap' (L ++ [y]) ∧ QQ V) := by
  obtain ⟨p', cap', rfl⟩ : ∃ p' cap', v' = .slice p' (n + 1) cap' := by
    rcases g8.2 with ⟨rfl, e⟩ | ⟨g, c, cur, rfl, _⟩
    · exact absurd e (by omega)
    · exact ⟨_, c, rfl⟩
  have hm : ∀ i, i ∈ N → i < W.heap.size := fun i hi => (h.lw.lt i (List.mem_append.2 (.inl (List.mem_append.2 (.inr hi))))).2
  have hp' : ∀ i, i ∈ rowOf p' → i ∈ rowOf p ∨ i = W.heap.size := fun i hi => by
    have h6 := own_row (n := n + 1) (cap := cap').2 hi
    rcases ho with e | e
    · rw [e] at h6; exact .inl (own_row.1 h6)
    · rw [e] at h6; injection h6 with h6; exact .inr h6.symm
  have g9 : SRow f T k base w8 p' cap' (L ++ [y]) := by
    show World.ownsRow _ _ _ _ _ _ _
    rw [List.length_append, hL, ← flatS_snoc]
    exact g8
  have blk : ∀ i, i < W.heap.size → i ∉ rowOf p → w8.heap[i]? = W.heap[i]? := fun i hi hn => gr.block i hi (fun e => hn (own_row.1 e.symm))
  refine ⟨p', cap', rfl, fun i hi e => ?_, h.re ⟨gr.os, gr.tape, gr.output, gr.size, fun i hi hn => blk i hi (fun e => hn (List.mem_append.2 (.inl e)))⟩ (fun i hi => ?_) ((stab_row f T k base p' cap' (L ++ [y])).and st) ⟨g9, st W w8 gr.size (fun i hi => blk i (hm i hi) (hN i hi)) h.pp.2⟩⟩
  · rcases hp' i e with e2 | e2
    · exact hN i hi e2
    · have := hm i hi
      omega
  · rcases List.mem_append.1 hi with e | e
    · refine ⟨?_, (g9.lt i e).2⟩
      rcases hp' i e with e2 | e2
      · exact .inl (List.mem_append.2 (.inl e2))
      · exact .inr (by omega)
    · exact ⟨.inl (List.mem_append.2 (.inr e)), Nat.lt_of_lt_of_le (hm i e) gr.size⟩
end
theorem take_while {α : Type} {f : α → Bool} {R : List α} {k : Nat} (hk : k < R.length) (h1 : ∀ q ∈ R.take k, f q = true) (h2 : f R[k] = false) : R.takeWhile f = R.take k := by
  conv => lhs; rw [← List.take_append_drop k R]
  rw [List.takeWhile_append_of_pos h1, List.drop_eq_getElem_cons hk, List.takeWhile_cons, h2]
  simp
theorem take_all {α : Type} {f : α → Bool} {R : List α} (h1 : ∀ q ∈ R, f q = true) : R.takeWhile f = R := by
  have := List.takeWhile_append_of_pos (p := f) (l₁ := R) (l₂ := []) h1
  simpa using this
set_option maxHeartbeats 4000000 in
theorem due_any {w0 w : World} {b c wb now : Nat} {s : St} {l : List Whl.ItemN} {x : Pl} {g : Lo} {M : List Nat} {PP : World → Prop} (h : Lx w0 w b s c wb now l x g M PP) (hl : ∀ q, q ∈ l → q.1 ≤ 1099511627776 ∧ q.2 ≤ 1048576) (hll : l.length ≤ 1000) (n most : Int) (hn : i64 n) :
    Calls Tryz.prog 21 #[.pointer (some ⟨x.lb, 0, none⟩), .int .i64 n, .int .i64 most] w fun e w' => ∃ p cap, e = .returned (.slice p (dueL s.T l (max now (min n 1099511627776).toNat) n most).length cap) ∧ (∀ i, i ∈ M → i ∉ rowOf p) ∧
      Lx w0 w' b s c wb (max now (min n 1099511627776).toNat) l x g (rowOf p ++ M) (fun W => ORow w0.heap.size W p cap (dueL s.T l (max now (min n 1099511627776).toNat) n most) ∧ PP W) := by
  have st0 := Lib.hid h.st
  have hadv := Lib.hid (h.advance n)
  have hb1 := cell_in h.lp.box 1
  unfold dueL
  generalize max now (min n 1099511627776).toNat = N at *
  have hR : Hid (∀ q, q ∈ (W.dueBy l N).take most.toNat → q.1 ≤ 1099511627776 ∧ q.2 ≤ 1048576) := fun q hq => hl q (List.mem_filter.1 (List.mem_of_mem_take hq)).1
  have hRl : ((W.dueBy l N).take most.toNat).length ≤ 1000 := by
    have h1 := List.length_filter_le (fun p : Whl.ItemN => decide (p.1 ≤ N)) l
    have h2 := List.length_take_le most.toNat (W.dueBy l N)
    unfold W.dueBy at h2 ⊢
    have h3 : ((l.filter fun p => decide (p.1 ≤ N)).take most.toNat).length ≤ (l.filter fun p => decide (p.1 ≤ N)).length := List.length_take_le' _ _
    omega
  have hdue : Hid (∀ V, Lx w0 V b s c wb N l x g M PP → Calls Tryz.prog 43 #[.pointer (some ⟨wb, 0, none⟩), .int .i64 most] V fun e w' => ∃ v, e = .returned v ∧ W.Rw V.heap.size w' v ((W.dueBy l N).take most.toNat) ∧ Below V.heap.size V w') := fun V hW => hW.lw.due most
  clear hl hll h
  generalize (W.dueBy l N).take most.toNat = R at *
  go_enter Tryz.func21, Tryz.ntmps21
  go_wp2_with fail
  refine hadv.out.mono ?_
  rintro e w1 ⟨v1, rfl, h1⟩
  clear hb1 hadv
  have hb1 := cell_in h1.lp.box 1
  have hdw := Lib.hid (hdue.out w1 h1)
  replace h1 := Lib.hid h1
  go_wp2_with fail
  refine hdw.out.mono ?_
  rintro e w2 ⟨v, rfl, hr, k2⟩
  obtain ⟨a, cp, rfl, _, _, ha⟩ := hr.look
  have hal := World.ownsRow.lt hr
  have hMl : Hid (∀ i, i ∈ M → i < w1.heap.size) := fun i hi => (h1.out.lw.lt i (List.mem_append.2 (.inl hi))).2
  have X2 : Lx w0 w2 b s c wb N l x g (rowOf a ++ M) (fun V => W.Rw w1.heap.size V (.slice a R.length cp) R ∧ PP V) := h1.out.grow k2 (fun i hi => hal i (own_row.2 hi)) (stab_rw _ _ _ _ _ rfl) hr
  have st1 : Hid (Stab (rowOf a ++ M) (fun V => W.Rw w1.heap.size V (.slice a R.length cp) R ∧ PP V)) := X2.st
  have X3 : Hid (Lx w0 w2 b s c wb N l x g (rowOf none ++ (rowOf a ++ M)) (fun V => ORow w0.heap.size V none 0 ((R.take 0).map (dueOp s.T n)) ∧ W.Rw w1.heap.size V (.slice a R.length cp) R ∧ PP V)) := X2.re (Kl.refl _ _) (fun i hi => ⟨.inl hi, (X2.lw.lt i (List.mem_append.2 (.inl hi))).2⟩) ((stab_row opC 31 10 w0.heap.size none 0 _).and X2.st) ⟨World.ownsRow_nil _ _ _ _, X2.pp⟩
  have hnil : Hid (∀ i, i ∈ rowOf a ++ M → i ∉ rowOf none) := fun i _ e => by simp [rowOf, Value.ownBlock] at e
  replace ha := Lib.hid ha
  have hRn : (R.length : Int) ≤ 1000 := by omega
  clear hr k2 hal X2 hb1 hdw hdue h1
  go_wp2_with fail
  go_loopw [7, 29] (fun v7 v29 wr => ∃ (k : Nat) (p : Option Addr) (cap : Nat), v29 = .int .i64 k ∧ v7 = .slice p k cap ∧ (k : Int) ≤ R.length ∧ Hid (∀ q, q ∈ R.take k → (q.1 : Int) ≤ n) ∧ Hid (∀ i, i ∈ rowOf a ++ M → i ∉ rowOf p) ∧ Hid (Lx w0 wr b s c wb N l x g (rowOf p ++ (rowOf a ++ M)) (fun V => ORow w0.heap.size V p cap ((R.take k).map (dueOp s.T n)) ∧ W.Rw w1.heap.size V (.slice a R.length cp) R ∧ PP V))) (fun _ v29 _ => ((R.length : Int) - intOf v29).toNat)
  case atStart => exact ⟨0, none, 0, rfl, rfl, by omega, fun q hq => by simp at hq, hnil, X3⟩
  case round =>
    obtain ⟨k, p, cap, rfl, rfl, hk, hle, hap, X⟩ := hrel
    clear X3 hnil
    have hlen : ((R.take k).map (dueOp s.T n)).length = k := by
      have : k ≤ R.length := by omega
      simp [this]
    by_cases hlt : (k : Int) < R.length
    · have hkl : k < R.length := by omega
      obtain ⟨gb, rfl⟩ := ha.out k hkl
      obtain ⟨c0, c1⟩ := X.out.pp.2.1.cells k hkl
      have hq := hR.out R[k] (List.getElem_mem hkl)
      have hmk : Hid ((R.take (k + 1)).map (dueOp s.T n) = (R.take k).map (dueOp s.T n) ++ [dueOp s.T n R[k]]) := by
        show _ = _
        rw [List.take_succ_eq_append_getElem hkl, List.map_append]; rfl
      have hle2 : Hid ((R[k].1 : Int) ≤ n → ∀ q, q ∈ R.take (k + 1) → (q.1 : Int) ≤ n) := fun e q hq => by
        rw [List.take_succ_eq_append_getElem hkl] at hq
        rcases List.mem_append.1 hq with f | f
        · exact hle.out q f
        · rw [List.mem_singleton.1 f]; exact e
      have hstop : Hid (¬ (R[k].1 : Int) ≤ n → R.takeWhile (fun p => decide ((p.1 : Int) ≤ n)) = R.take k) := fun e => take_while hkl (fun q hq => decide_eq_true (hle.out q hq)) (decide_eq_false e)
      generalize R[k] = q at *
      obtain ⟨q1, q2⟩ := q
      simp only at c0 c1 hq hle2 hstop
      generalize hL : (R.take k).map (dueOp s.T n) = L at *
      have hs := X.out.lw.bel.size
      have X1 := Lib.hid (X.out.tmp (.cells #[.int .i64 (q1 : Int), .int .i64 (q2 : Int)] 100)).drew
      have d0 : (wr.alloc (.cells #[.int .i64 (q1 : Int), .int .i64 (q2 : Int)] 100)).cell? ⟨wr.heap.size, 0, none⟩ = some (.int .i64 (q1 : Int)) := cell_in (Go.heap_alloc_new wr _) 0
      have d1 : (wr.alloc (.cells #[.int .i64 (q1 : Int), .int .i64 (q2 : Int)] 100)).cell? ⟨wr.heap.size, 1, none⟩ = some (.int .i64 (q2 : Int)) := cell_in (Go.heap_alloc_new wr _) 1
      by_cases hgt : (q1 : Int) ≤ n
      · go_wp2_with fail
        go_region_held3 (fun w' => w'.cell? ⟨wr.heap.size, 0, none⟩ = some (.int .i64 (q1 : Int)) ∧ w'.cell? ⟨wr.heap.size, 1, none⟩ = some (.int .i64 (q2 : Int))) (exact ⟨d0, d1⟩) (fail)
        have hb0 := cell_in X1.out.lp.box 0
        clear c0 c1 d0 d1 X hstop
        generalize (wr.alloc (.cells #[.int .i64 (q1 : Int), .int .i64 (q2 : Int)] 100)).drew = w4 at *
        go_wp2_with fail
        refine (X1.out.get (q2 : Int) (by constructor <;> omega)).mono ?_
        rintro e w5 ⟨rfl, X5⟩
        have hy : dueOp s.T n (q1, q2) = ⟨3, 0, 0, (q2 : Int), (valT s.T (q2 : Int)).gen, (q1 : Int), 0, n, 0, ⟨#[]⟩⟩ := rfl
        rw [hy] at hmk
        clear hb0 X1 hy
        generalize valT s.T (q2 : Int) = t at *
        obtain ⟨t0, t1, t2, t3, t4⟩ := t
        simp only at hmk
        unfold tmV
        have hs5 := X5.lw.bel.size
        have X6 := Lib.hid (((X5.pop ((stab_row opC 31 10 w0.heap.size p cap _).and st1.out)).alloc (.cells #[.int .i64 t0, .int .i64 t1, .int .i64 t2, .int .i64 t3, .string t4] 55)).alloc (.cells (opC ⟨3, 0, 0, (q2 : Int), t2, (q1 : Int), 0, n, 0, ⟨#[]⟩⟩) 31))
        clear X5
        obtain ⟨i0, hi0, hz0, hzs, hzb⟩ := info_parts infoOp
        have hz : (w5.alloc (.cells #[.int .i64 t0, .int .i64 t1, .int .i64 t2, .int .i64 t3, .string t4] 55)).heap.size = w5.heap.size + 1 := by simp
        have hnw := Go.heap_alloc_new (w5.alloc (.cells #[.int .i64 t0, .int .i64 t1, .int .i64 t2, .int .i64 t3, .string t4] 55)) (.cells (opC ⟨3, 0, 0, (q2 : Int), t2, (q1 : Int), 0, n, 0, ⟨#[]⟩⟩) 31)
        rw [hz] at hnw
        have hrow : Hid (World.ownsRow ((w5.alloc (.cells #[.int .i64 t0, .int .i64 t1, .int .i64 t2, .int .i64 t3, .string t4] 55)).alloc (.cells (opC ⟨3, 0, 0, (q2 : Int), t2, (q1 : Int), 0, n, 0, ⟨#[]⟩⟩) 31)) w0.heap.size 31 10 (.slice p k cap) k (flatS opC L)) := by
          have h6 : World.ownsRow _ w0.heap.size 31 10 (.slice p L.length cap) L.length (flatS opC L) := X6.out.pp.1
          rw [hlen] at h6
          exact h6
        have hnews : Hid (∀ (j : Nat) (u : Value), (opC ⟨3, 0, 0, (q2 : Int), t2, (q1 : Int), 0, n, 0, ⟨#[]⟩⟩).toList[j]? = some u → ((w5.alloc (.cells #[.int .i64 t0, .int .i64 t1, .int .i64 t2, .int .i64 t3, .string t4] 55)).alloc (.cells (opC ⟨3, 0, 0, (q2 : Int), t2, (q1 : Int), 0, n, 0, ⟨#[]⟩⟩) 31)).cell? ((⟨w5.heap.size + 1, 0, none⟩ : Addr).add j) = some u) := fun j u hu => by
          rw [Addr.add_lit, Nat.zero_add]
          rw [Array.getElem?_toList] at hu
          exact (cell_in hnw j).trans hu
        have hbase : Hid (w0.heap.size ≤ ((w5.alloc (.cells #[.int .i64 t0, .int .i64 t1, .int .i64 t2, .int .i64 t3, .string t4] 55)).alloc (.cells (opC ⟨3, 0, 0, (q2 : Int), t2, (q1 : Int), 0, n, 0, ⟨#[]⟩⟩) 31)).heap.size) := X6.out.lw.bel.size
        have hk1 : k ≤ 1000 := by omega
        clear hnw hz hs5
        go_wp2_with (at_builtin; refine wpList_append_own_at _ rfl _ _ 22 rfl w0.heap.size 31 i0 _ 10 88 Tryz.underlying22 hi0 hz0 hzs hzb rfl (by decide) _ _ _ rfl hrow.out ⟨w5.heap.size + 1, 0, none⟩ 1 1 (opC ⟨3, 0, 0, (q2 : Int), t2, (q1 : Int), 0, n, 0, ⟨#[]⟩⟩).toList rfl (by simp) hnews.out (opC_one _) (by unfold maxLen; omega) (by omega) hbase.out ?_)
        intro v' w8 g8 gr8 _ ho8
        obtain ⟨p', cap', rfl, hap', X8⟩ := Lx.more hlen X6.out st1.out hap.out ⟨3, 0, 0, (q2 : Int), t2, (q1 : Int), 0, n, 0, ⟨#[]⟩⟩ g8 gr8 (ho8.imp id fun e => e.trans (by simp))
        rw [← hmk.out] at X8
        replace X8 := Lib.hid X8
        replace hap' := Lib.hid hap'
        have hle3 := Lib.hid (hle2.out hgt)
        clear g8 gr8 ho8 hrow hnews hbase X6
        go_wp2_with fail
        exact ⟨⟨k + 1, p', cap', by go_num, rfl, by omega, hle3, hap', X8⟩, by simp [intOf]; omega⟩
      · go_wp2_with fail
        go_region_held3 (fun w' => w'.cell? ⟨wr.heap.size, 0, none⟩ = some (.int .i64 (q1 : Int)) ∧ w'.cell? ⟨wr.heap.size, 1, none⟩ = some (.int .i64 (q2 : Int))) (exact ⟨d0, d1⟩) (fail)
        go_wp2_with fail
        go_ret
        rw [hstop.out (by omega), hL]
        refine ⟨p, cap, by rw [hlen]; rfl, fun i hi => hap.out i (List.mem_append.2 (.inr hi)), X1.out.less (N := rowOf p ++ M) (fun i hi => ?_) ((stab_row opC 31 10 w0.heap.size p cap _).and st0.out) ⟨X1.out.pp.2.1, X1.out.pp.2.2.2⟩⟩
        rcases List.mem_append.1 hi with e | e
        · exact List.mem_cons_of_mem _ (List.mem_append.2 (.inl e))
        · exact List.mem_cons_of_mem _ (List.mem_append.2 (.inr (List.mem_append.2 (.inr e))))
    · obtain rfl : k = R.length := by omega
      rw [List.take_length] at hlen
      have hall : Hid (R.takeWhile (fun p => decide ((p.1 : Int) ≤ n)) = R) := take_all fun q hq => decide_eq_true (hle.out q (by rw [List.take_length]; exact hq))
      have X1 := Lib.hid (X.out.less (N := rowOf p ++ M) (QQ := fun V => ORow w0.heap.size V p cap (R.map (dueOp s.T n)) ∧ PP V) (fun i hi => by
        rcases List.mem_append.1 hi with e | e
        · exact List.mem_append.2 (.inl e)
        · exact List.mem_append.2 (.inr (List.mem_append.2 (.inr e)))) ((stab_row opC 31 10 w0.heap.size p cap _).and st0.out) ⟨by have := X.out.pp.1; rw [List.take_length] at this; exact this, X.out.pp.2.2⟩)
      clear X
      go_wp2_with fail
      go_ret
      rw [hall.out]
      exact ⟨p, cap, by first | (rw [hlen]; rfl) | rfl, fun i hi => hap.out i (List.mem_append.2 (.inr hi)), X1.out⟩
end Go.Proofs.YtoihekgmomjhpaaGreatDoor

/-
  Layer 9: what stays as it is from operation to operation, in plain numbers and beside the log in memory; Append as one step of that.
-/
set_option linter.unusedVariables false
set_option linter.unusedSimpArgs false
namespace Go.Proofs.YtoihekgmomjhpaaGreatDoor
open Go.RowKit Go.MapKept Crn Nxt Ste
set_option maxRecDepth 100000
theorem ris_len {n : Nat} {V : List (Nat × Rp)} (h : Ris n V) : V.length ≤ n := by
  have h1 : (V.map (·.1)).Nodup := by
    unfold List.Nodup
    rw [List.pairwise_map]
    exact h.1.imp fun {a b} e => Nat.ne_of_lt e
  have := nodup_len (m := (List.range n).map (· + 1)) h1 fun a ha => by
    obtain ⟨v, hv, rfl⟩ := List.mem_map.1 ha
    have := h.2 v hv
    exact List.mem_map.2 ⟨v.1 - 1, List.mem_range.2 (by omega), by omega⟩
  simpa using this
theorem fireOf_len (o : OpN) (r : Rp) (n : Nat) (c : Int) : (fireOf o r n c).length ≤ 1 := by
  unfold fireOf
  split <;> simp
/-- What stays behind n operations. -/
structure Inv (n : Nat) (s : St) (c : Nat) (l : List Whl.ItemN) (g : Lo) : Prop where
  ops : g.ops.length = n
  rps : g.rps.length = n
  fir : g.fires.length ≤ n
  ris : ∀ id, Ris n (g.ver id)
  win : WIn l s.T
  due : DueOk s
  cnt : c = n
  fup : ∀ f ∈ g.fires, f.1 ≤ (n : Int)
theorem inv_new (timers : Int) : Inv 0 (newN timers) 0 [] g0 := ⟨rfl, rfl, Nat.le_refl _, fun id => ris_nil 0, WIn.nil, dueOk_new timers, rfl, fun f hf => (List.not_mem_nil hf).elim⟩
theorem ris_ver {s : St} {n : Nat} {V : Int → List (Nat × Rp)} (h : ∀ id, Ris n (V id)) (o : OpN) : ∀ id, Ris (n + 1) (verN s o n V id) := fun id => by
  unfold verN
  split
  · exact (h id).snoc _
  · exact (h id).mono (Nat.le_succ _)
section
variable {w0 w w' : World} {b c wb now n : Nat} {s : St} {l : List Whl.ItemN} {x : Pl} {g : Lo} {M : List Nat} {PP : World → Prop}
theorem Lx.push (h : Lx w0 w b s c wb now l x g M PP) (I : Inv n s c l g) (tb : Tab w0) (nt : NTab w0) (hn : n < 2000) (o : OpN) (ho : OpOk o) (hcr : o.cron.size ≤ 256) :
    Calls Tryz.prog 10 #[.pointer (some ⟨x.lb, 0, none⟩), opV o] w fun e w' => e = .returned (.tuple #[.int .i64 ((n + 1 : Nat) : Int), rpV (applyN s o).2, .int .i64 0]) ∧
      ∃ x' l', x'.lb = x.lb ∧ Lx w0 w' b (applyN s o).1 (c + 1) wb now l' x' (appG g s o) M PP ∧ Inv (n + 1) (applyN s o).1 (c + 1) l' (appG g s o) := by
  have hok := h.lw.ok
  have hd := dueOk_step hok I.due o
  have e1 := I.ops
  have e2 := I.rps
  have e3 := I.fir
  have e4 := I.cnt
  have e5 := ris_len (I.ris o.id)
  refine (append_any h tb nt (by omega) o ho I.win (by omega) hcr (by omega) (by omega) (by omega) hd).mono ?_
  rintro e w' ⟨he, x', l', h1, h2, h3⟩
  rw [e1] at he
  refine ⟨he, x', l', h1, h3, ⟨?_, ?_, ?_, ?_, h2, hd, by omega, ?_⟩⟩
  · rw [(appG_ops g s o).1, List.length_append, e1]; rfl
  · rw [(appG_ops g s o).2.1, List.length_append, e2]; rfl
  · rw [appG_fires, List.length_append]
    have := fireOf_len o (applyN s o).2 (g.ops.length + 1) (valT s.T o.id).client
    omega
  · rw [appG_ver hok o h3.lw.ok, e1]
    exact ris_ver I.ris o
  · intro f hf
    rw [appG_fires] at hf
    rcases List.mem_append.1 hf with e | e
    · have := I.fup f e
      omega
    · unfold fireOf at e
      split at e
      · rw [List.mem_singleton.1 e, e1]
        show ((n + 1 : Nat) : Int) ≤ _
        omega
      · exact (List.not_mem_nil e).elim
end
end Go.Proofs.YtoihekgmomjhpaaGreatDoor

/-
  Layer 9: the fixed answers.
-/
set_option linter.unusedVariables false
set_option linter.unusedSimpArgs false
namespace Go.Proofs.YtoihekgmomjhpaaGreatDoor
open Go.RowKit Go.MapKept Crn Nxt Ste
set_option maxRecDepth 100000
abbrev o91 : OpN := ⟨1, 1, 1, 7, 0, 0, 9, 0, 0, ⟨#[]⟩⟩
abbrev o92 : OpN := ⟨2, 1, 2, 7, 0, 0, 0, 0, 0, ⟨#[]⟩⟩
abbrev s91 : St := ⟨3, 1, [⟨7, 1, 1, 9, ⟨#[]⟩⟩], [⟨1, 1, ⟨0, 1, 9⟩⟩]⟩
abbrev s92 : St := ⟨3, 1, [], [⟨1, 2, ⟨0, 1, 9⟩⟩]⟩
theorem aw9_1 : applyN (newN 3) o91 = (s91, ⟨0, 1, 9⟩) := by rfl
theorem aw9_2 : applyN s91 o92 = (s92, ⟨0, 1, 9⟩) := by rfl
theorem aw9_ops : (appG (appG g0 (newN 3) o91) s91 o92).ops.length = 2 := by rw [(appG_ops _ _ _).1, (appG_ops _ _ _).1]; rfl
theorem aw9_rt : atR (appG (appG g0 (newN 3) o91) s91 o92).rt 1 2 = some 2 := by
  rw [(appG_ops _ _ _).2.2, (appG_ops g0 _ _).2.2, (appG_ops g0 _ _).1]
  rfl
theorem aw9_ver (h0 : Ok (newN 3)) (h1 : Ok s91) (h2 : Ok s92) : (appG (appG g0 (newN 3) o91) s91 o92).ver 7 = [(1, ⟨0, 1, 9⟩), (2, ⟨6, 0, 0⟩)] := by
  rw [appG_ver h1 o92 (by rw [aw9_2]; exact h2), (appG_ops g0 _ _).1]
  unfold verN
  rw [if_pos ⟨rfl, by rw [aw9_2]; intro e; cases e⟩, appG_ver h0 o91 (by rw [aw9_1]; exact h1)]
  unfold verN
  rw [if_pos ⟨rfl, by rw [aw9_1]; intro e; cases e⟩, aw9_1, aw9_2]
  rfl
theorem all_one {α : Type} {l : List α} {a : α} (hn : l.Nodup) (h1 : ∀ x ∈ l, x = a) (ha : a ∈ l) : l = [a] := by
  match l, hn, h1, ha with
  | [], _, _, ha => cases ha
  | [x], _, h1, _ => rw [h1 x (by simp)]
  | x :: y :: l, hn, h1, _ =>
    have e : x = y := (h1 x (by simp)).trans (h1 y (by simp)).symm
    rw [e] at hn
    simp at hn
theorem aw9_win {l : List Whl.ItemN} (h : WIn l s91.T) : l = [(9, 7)] := by
  refine all_one h.nodup (fun p hp => ?_) ((h.has 9 7).2 ⟨by omega, rfl⟩)
  obtain ⟨a, i⟩ := p
  obtain ⟨h1, h2⟩ := (h.has a i).1 hp
  obtain ⟨t, ht, e1, e2⟩ := val_mem (T := s91.T) (i := (i : Int)) (by omega)
  rw [List.mem_singleton.1 ht] at e1 e2
  have e3 : (7 : Int) = i := e1
  rw [← e2] at h2
  have e4 : (9 : Int) = a := h2
  obtain rfl : i = 7 := by omega
  obtain rfl : a = 9 := by omega
  rfl
theorem aw9_win2 {l : List Whl.ItemN} (h : WIn l s92.T) : l = [] := by
  match l, h with
  | [], _ => rfl
  | (a, i) :: l, h =>
    obtain ⟨h1, h2⟩ := (h.has a i).1 (by simp)
    have e : (valT s92.T (i : Int)).due = 0 := rfl
    omega
theorem aw9_due : dueL s91.T [(9, 7)] (max 0 (min 9 1099511627776 : Int).toNat) 9 5 = [⟨3, 0, 0, 7, 1, 9, 0, 9, 0, ⟨#[]⟩⟩] := by rfl
theorem aw9_due2 (N : Nat) : dueL s92.T [] N 99 5 = [] := by simp [dueL, W.dueBy]
theorem aw9_r1 : readN [(1, ⟨0, 1, 9⟩), (2, ⟨6, 0, 0⟩)] 1 = ⟨0, 1, 9⟩ := by rfl
theorem aw9_r2 : readN [(1, ⟨0, 1, 9⟩), (2, ⟨6, 0, 0⟩)] 2 = ⟨6, 0, 0⟩ := by rfl
theorem aw9_nw : newestN [(1, ⟨0, 1, 9⟩), (2, ⟨6, 0, 0⟩)] = 2 := by rfl
theorem fieldRp9 (a b c : Value) (W : World) : Sem.run Tryz.prog (Instr.field 34 (.agg #[a, b, c]) 0) W = .ok a W := by
  simp [Instr.field, underlying, part, asAgg, Tryz.underlying34, Sem.run_bind, Result.andThen]
set_option maxHeartbeats 4000000 in
theorem awake_any (w : World) (tb : Tab w) (nt : NTab w) : Calls Tryz.prog 7 #[] w fun e w' => e = .returned (.bool true) ∧ Below w.heap.size w w' := by
  have hpos : topTab < w.heap.size := by
    have h1 := tb.size
    have h2 := nt.size
    unfold topTab
    omega
  have cN := Lib.hid (newLog_any 3 (by constructor <;> omega) w hpos nt.bru)
  clear hpos
  replace tb := Lib.hid tb
  replace nt := Lib.hid nt
  go_enter Tryz.func7, Tryz.ntmps7
  go_wp2_with fail
  refine cN.out.mono ?_
  rintro e w1 ⟨b, wb, x, rfl, h1⟩
  have hok0 := Lib.hid h1.lw.ok
  have c1 := Lib.hid (h1.push (inv_new 3) tb.out nt.out (by omega) o91 (ok_aw _ _ _ _ _ _ _ _ _ (by decide)) (by decide))
  clear cN h1
  go_wp2_with fail
  refine c1.out.mono ?_
  rintro e w2 ⟨he, x2, l2, hlb2, h2, I2⟩
  rw [aw9_1] at he h2 I2
  simp only at he h2 I2
  subst he
  obtain rfl := aw9_win I2.win
  have hok1 := Lib.hid h2.lw.ok
  have X2 := h2.tmp (.cells (rpC ⟨0, 1, 9⟩) 34)
  have c2 := due_any X2 (fun q hq => by rw [List.mem_singleton.1 hq]; exact ⟨by decide, by decide⟩) (by decide) 9 5 (by constructor <;> omega)
  rw [hlb2, aw9_due] at c2
  replace c2 := Lib.hid c2
  clear c1 h2 X2
  replace hlb2 := Lib.hid hlb2
  replace I2 := Lib.hid I2
  go_wp2_with fail
  refine c2.out.mono ?_
  rintro e w3 ⟨p, cap, rfl, hap, h3⟩
  generalize max 0 (min 9 1099511627776 : Int).toNat = N at *
  have c3 := h3.push I2.out tb.out nt.out (by omega) o92 (ok_aw _ _ _ _ _ _ _ _ _ (by decide)) (by decide)
  rw [hlb2.out, aw9_2] at c3
  replace c3 := Lib.hid c3
  clear c2 h3
  go_wp2_with fail
  refine c3.out.mono ?_
  rintro e w4 ⟨rfl, x4, l4, hlb4, h4, I4⟩
  obtain rfl := aw9_win2 I4.win
  have hok2 := Lib.hid h4.lw.ok
  have X4 := Lib.hid (h4.tmp (.cells (rpC ⟨0, 1, 9⟩) 34))
  have hver := aw9_ver hok0.out hok1.out hok2.out
  have hops := aw9_ops
  have hrt := aw9_rt
  have hris := Lib.hid (I4.ris 7)
  clear c3 h4 I4 I2 hok0 hok1 hok2
  generalize appG (appG g0 (newN 3) o91) s91 o92 = g at *
  generalize hW4 : w4.alloc (.cells (rpC ⟨0, 1, 9⟩) 34) = W4 at *
  have q := X4.out.pp
  have hrq := request_any X4.out.lp 1 2 (by constructor <;> omega) (by constructor <;> omega)
  rw [hlb4, hrt] at hrq
  replace hrq := Lib.hid hrq
  obtain ⟨gd, hgd, hd⟩ := q.2.1.at (fun _ => rfl) 0 (by simp)
  subst hgd
  have e1 := cell_in q.2.2.1 1
  have d0 := hd 0 _ rfl
  have d1 := hd 1 _ rfl
  have d2 := hd 2 _ rfl
  have d3 := hd 3 _ rfl
  have d4 := hd 4 _ rfl
  have d5 := hd 5 _ rfl
  have d6 := hd 6 _ rfl
  have d7 := hd 7 _ rfl
  have d8 := hd 8 _ rfl
  have d9 := hd 9 _ rfl
  simp only [List.getElem_cons_zero, Nat.zero_mul, Nat.zero_add] at d0 d1 d2 d3 d4 d5 d6 d7 d8 d9
  have hl7 : (g.ver 7).length ≤ 100000 := by rw [hver]; decide
  have cR1 := Lib.hid (fun W (h : LP w.heap.size W b wb x4 g) => by
    have := read_any h 7 1 (by constructor <;> omega) hl7 hris.out
    rw [hver, hlb4, aw9_r1] at this
    exact this)
  have cR2 := Lib.hid (fun W (h : LP w.heap.size W b wb x4 g) => by
    have := read_any h 7 2 (by constructor <;> omega) hl7 hris.out
    rw [hver, hlb4, aw9_r2] at this
    exact this)
  have cNw := Lib.hid (fun W (h : LP w.heap.size W b wb x4 g) => by
    have := newest_any h 7 (by constructor <;> omega) hl7
    rw [hver, hlb4, aw9_nw] at this
    exact this)
  have cLn := Lib.hid (fun W (h : LP w.heap.size W b wb x4 g) => by
    have := len_any h
    rw [hops, hlb4] at this
    exact this)
  replace hlb4 := Lib.hid hlb4
  clear q hd hrt hl7 hver hops hris
  have qF := fieldRp9
  unfold rpV at *
  go_wp2_with fail
  refine hrq.out.mono ?_
  rintro e w5 ⟨rfl, hw5⟩
  subst hw5
  clear hrq
  go_wp2_with fail
  refine (cR1.out _ X4.out.lp).mono ?_
  rintro e w6 ⟨rfl, k6⟩
  have X6 := Lib.hid (X4.out.below k6)
  clear X4 k6 cR1 e1 d0 d1 d2 d3 d4 d5 d6 d7 d8 d9
  go_wp2_with fail
  refine (cR2.out _ X6.out.lp).mono ?_
  rintro e w7 ⟨rfl, k7⟩
  have X7 := Lib.hid (X6.out.below k7)
  clear X6 k7 cR2
  go_wp2_with fail
  refine (cNw.out _ X7.out.lp).mono ?_
  rintro e w8 ⟨rfl, hw8⟩
  subst hw8
  have c5 := due_any X7.out (fun q hq => (List.not_mem_nil hq).elim) (by decide) 99 5 (by constructor <;> omega)
  rw [hlb4.out, aw9_due2] at c5
  replace c5 := Lib.hid c5
  clear cNw
  go_wp2_with fail
  refine c5.out.mono ?_
  rintro e w9 ⟨p9, cap9, rfl, -, X9⟩
  replace X9 := Lib.hid X9
  clear X7 c5
  go_wp2_with fail
  refine (cLn.out _ X9.out.lp).mono ?_
  rintro e w10 ⟨rfl, hw10⟩
  subst hw10
  go_wp2_with fail
  go_ret
  exact ⟨rfl, X9.out.lw.bel⟩
end Go.Proofs.YtoihekgmomjhpaaGreatDoor
