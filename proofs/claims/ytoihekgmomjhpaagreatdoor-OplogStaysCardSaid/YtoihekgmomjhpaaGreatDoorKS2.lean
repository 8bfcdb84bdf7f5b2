/-
  Texts laid into one (a claim has 60 files at most): STurn, SCalls, SDue.
-/
import Derived.Test.YtoihekgmomjhpaaGreatDoorKS1
import Derived.Laws.ResultCell
import Derived.Deep.RegionHeld3
/-
  Layer 8: what becomes of the service's parts when one of them is written.
-/
set_option linter.unusedVariables false
namespace Go.Proofs.YtoihekgmomjhpaaGreatDoor
open Go.RowKit Crn Nxt Ste
set_option maxRecDepth 100000
section
variable {w w' : World} {b : Nat} {s : St} {cl : List Int} {x : Px} {c : Nat}
theorem Aft.mono' {w0 w1 w2 : World} {s' s'' : St} {cl' cl'' : List Int} {x' x'' : Px} {c' c'' : Nat} (h : Aft w0 b x w1 s' cl' x' c') (k : Aft w1 b x' w2 s'' cl'' x'' c'') : Aft w0 b x w2 s'' cl'' x'' c'' := by
  have hs := h.kept.size
  have kk : Kl (Go.Proofs.YtoihekgmomjhpaaGreatDoor.own x b) w0 w2 := ⟨k.kept.os.trans h.kept.os, k.kept.tape.trans h.kept.tape, k.kept.output.trans h.kept.output, Nat.le_trans hs k.kept.size, fun i hi hn => (k.kept.block i (Nat.lt_of_lt_of_le hi hs) (fun e => by
    rcases h.own i e with g | g
    · exact hn g
    · omega)).trans (h.kept.block i hi hn)⟩
  refine ⟨k.sv, kk, fun i hi => ?_, k.kl.trans h.kl⟩
  rcases k.own i hi with g | g
  · exact h.own i g
  · right; omega
theorem Aft.ofBelow (h : Sv w b s cl x c) (k : Below w.heap.size w w') : Aft w b x w' s cl x c := ⟨h.below k, Kl.ofBelow k, fun _ hi => .inl hi, rfl⟩
theorem Aft.below {w2 : World} {s' : St} {cl' : List Int} {x' : Px} {c' : Nat} (h : Aft w b x w' s' cl' x' c') (k : Below w'.heap.size w' w2) : Aft w b x w2 s' cl' x' c' := h.mono' (Aft.ofBelow h.sv k)
theorem Aft.before {w0 : World} {s' : St} {cl' : List Int} {x' : Px} {c' : Nat} (k : Below w0.heap.size w0 w) (h : Aft w b x w' s' cl' x' c') : Aft w0 b x w' s' cl' x' c' := by
  have hs := k.size
  refine ⟨h.sv, (Kl.ofBelow k).trans h.kept, fun i hi => ?_, h.kl⟩
  rcases h.own i hi with g | g
  · exact .inl g
  · right; omega
theorem Aft.more {s' : St} {cl' : List Int} {x' : Px} {c' c'' : Nat} (h : Aft w b x w' s' cl' x' c') (hc : c' ≤ c'') : Aft w b x w' s' cl' x' c'' := ⟨h.sv.mono hc, h.kept, h.own, h.kl⟩
theorem own_m {x : Px} {b k : Nat} (h : k ∈ owned x.cb x.m x.l) : k ∈ own x b := by
  simp only [own, List.mem_cons, List.mem_append]
  exact Or.inr (Or.inr (Or.inr (Or.inr h)))
theorem owned_m {cb : Nat} {m : Option Nat} {l : List (ByteArray × Nat)} {k : Nat} (h : m = some k) : k ∈ owned cb m l := by simp [owned, h]
/-- The cache was asked. -/
theorem Sv.cache (h : Sv w b s cl x c) {str : ByteArray} {m' : Option Nat} {l' : List (ByteArray × Nat)} (k : Behind w x.cb x.a x.m x.l str w' m' l') : Aft w b x w' s cl { x with a := x.a + 1, m := m', l := l' } (c + 1) := by
  have f := h.far
  have hlt := h.lt
  have hb : ∀ i, i ∈ own x b → i ∉ owned x.cb x.m x.l → w'.heap[i]? = w.heap[i]? := fun i hi ho => k.kept.block i (hlt i hi).1 ho
  have hlen : l'.length ≤ x.l.length + 1 := by
    by_cases hs : str ∈ x.l.map (·.1)
    · have := congrArg List.length (k.old hs)
      simp only [List.length_map] at this
      omega
    · have := congrArg List.length (k.new hs)
      simp only [List.length_map, List.length_append, List.length_singleton] at this
      omega
  have hm : ∀ i, i ∈ own x b → i ∉ owned x.cb x.m x.l → m' ≠ some i := fun i hi ho e => by
    rcases k.own i (owned_m e) with g | g
    · exact ho g
    · have := (hlt i hi).1; omega
  have i1 : b ∈ own x b := by simp [own]
  have i2 : x.tb ∈ own x b := by simp [own]
  have i3 : x.lb ∈ own x b := by simp [own]
  refine ⟨⟨(hb b i1 f.bc).trans h.blk, h.tm.kept (hb _ i2 f.tc), h.tp, h.km.kept (hb _ i3 f.lc), row_same h.row (fun g hg => hb g (by have := own_row.1 hg; simp [own, this]) (f.rc g (own_row.1 hg))), k.ca, ⟨by have := h.cnt.1; show l'.length ≤ x.a + 1; omega, by have := h.cnt.2; show x.a + 1 ≤ c + 1; omega⟩, h.hb, h.ht, h.hl, ⟨h.sep.1, hm _ i2 f.tc, hm _ i3 f.lc⟩, h.ok, by have := h.gc; omega⟩, k.kept.mono (fun i hi => .inl (own_m hi)), fun i hi => ?_, rfl⟩
  simp only [own, List.mem_cons, List.mem_append] at hi
  rcases hi with rfl | rfl | rfl | hi | hi
  · exact .inl i1
  · exact .inl i2
  · exact .inl i3
  · exact .inl (by simp [own, hi])
  · rcases k.own i hi with g | g
    · exact .inl (own_m g)
    · exact .inr g
/-- The map of timers was written: only its block turned. -/
theorem Sv.timers (h : Sv w b s cl x c) {s' : St} {tl' : List Tm} (hv : VMap w' x.tb (tl'.map tmP)) (g : w.grownBy w' (some x.tb)) (hp : tl'.Perm s'.T) (hr : s'.room = s.room) (hg : s'.gens = s.gens) (ok : Ok s') : Aft w b x w' s' cl { x with tl := tl' } c := by
  have f := h.far
  have hlt := h.lt
  have hb : ∀ i, i ∈ own x b → i ≠ x.tb → w'.heap[i]? = w.heap[i]? := fun i hi ho => g.block i (hlt i hi).1 (fun e => ho (by injection e))
  have i1 : b ∈ own x b := by simp [own]
  have i2 : x.tb ∈ own x b := by simp [own]
  have i3 : x.lb ∈ own x b := by simp [own]
  have kl : Kl [x.tb] w w' := ⟨g.os, g.tape, g.output, g.size, fun i hi ho => g.block i hi (fun e => ho (by injection e with e; simp [e]))⟩
  refine ⟨⟨by rw [hr, hg]; exact (hb b i1 f.bt).trans h.blk, hv, hp, h.km.kept (hb _ i3 (fun e => f.tl e.symm)), row_same h.row (fun i hi => hb i (by have := own_row.1 hi; simp [own, this]) (fun e => f.tr (by rw [← e]; exact own_row.1 hi))), h.ca.kept kl (fun i hi => by simp only [List.mem_singleton] at hi; subst hi; exact f.tc), h.cnt, h.hb, h.ht, h.hl, h.sep, ok, by rw [hg]; exact h.gc⟩, kl.mono (fun i hi => .inl (by simp only [List.mem_singleton] at hi; subst hi; exact i2)), fun i hi => .inl hi, rfl⟩
/-- The map of last requests was written. -/
theorem Sv.last (h : Sv w b s cl x c) {kl' : List Kn} (hv : VMap w' x.lb (kl'.map knP)) (g : w.grownBy w' (some x.lb)) : Sv w' b s cl { x with kl := kl' } c ∧ Kl (own x b) w w' := by
  have f := h.far
  have hlt := h.lt
  have hb : ∀ i, i ∈ own x b → i ≠ x.lb → w'.heap[i]? = w.heap[i]? := fun i hi ho => g.block i (hlt i hi).1 (fun e => ho (by injection e))
  have i1 : b ∈ own x b := by simp [own]
  have i2 : x.tb ∈ own x b := by simp [own]
  have i3 : x.lb ∈ own x b := by simp [own]
  have kl : Kl [x.lb] w w' := ⟨g.os, g.tape, g.output, g.size, fun i hi ho => g.block i hi (fun e => ho (by injection e with e; simp [e]))⟩
  refine ⟨⟨(hb b i1 f.bl).trans h.blk, h.tm.kept (hb _ i2 f.tl), h.tp, hv, row_same h.row (fun i hi => hb i (by have := own_row.1 hi; simp [own, this]) (fun e => f.lr (by rw [← e]; exact own_row.1 hi))), h.ca.kept kl (fun i hi => by simp only [List.mem_singleton] at hi; subst hi; exact f.lc), h.cnt, h.hb, h.ht, h.hl, h.sep, h.ok, h.gc⟩, kl.mono (fun i hi => .inl (by simp only [List.mem_singleton] at hi; subst hi; exact i3))⟩
/-- One generation more. -/
theorem Sv.again (h : Sv w b s cl x c) (hc : s.gens + 1 ≤ c) (hg : s.gens < 1000000) : Aft w b x (w.setCell ⟨b, 1, none⟩ (.int .i64 ((s.gens + 1 : Nat) : Int))) { s with gens := s.gens + 1 } cl x c := by
  have f := h.far
  have hlt := h.lt
  have hb : ∀ i, i ≠ b → (w.setCell ⟨b, 1, none⟩ (.int .i64 ((s.gens + 1 : Nat) : Int))).heap[i]? = w.heap[i]? := fun i hi => heap_setCell_other _ _ _ _ hi
  have i1 : b ∈ own x b := by simp [own]
  have kl : Kl [b] w (w.setCell ⟨b, 1, none⟩ (.int .i64 ((s.gens + 1 : Nat) : Int))) := (Kl.refl _ _).setCell (by simp) _ _
  have ok : Ok { s with gens := s.gens + 1 } := ⟨h.ok.room0, h.ok.room1, h.ok.up, h.ok.full, h.ok.apart, h.ok.few, fun t ht => (h.ok.tm t ht).mono (Nat.le_succ _), h.ok.kn, hg⟩
  refine ⟨⟨heap_setCell_same _ b 1 _ _ _ h.blk, h.tm.kept (hb _ (fun e => f.bt e.symm)), h.tp, h.km.kept (hb _ (fun e => f.bl e.symm)), row_same h.row (fun i hi => hb i (fun e => f.br (by rw [← e]; exact own_row.1 hi))), h.ca.kept kl (fun i hi => by simp only [List.mem_singleton] at hi; subst hi; exact f.bc), h.cnt, h.hb, h.ht, h.hl, h.sep, ok, hc⟩, kl.mono (fun i hi => .inl (by simp only [List.mem_singleton] at hi; subst hi; exact i1)), fun i hi => .inl hi, rfl⟩
end
/-! The map's entries and the sorted list. -/
theorem perm_new {tl T : List Tm} (h : tl.Perm T) (hu : Up T) {t : Tm} (hn : find t.id T = none) : (tl ++ [t]).Perm (put t (away t.id T)) := by
  rw [away_none (find_none hn)]
  exact (List.perm_append_comm.trans (List.Perm.cons t h)).trans (put_perm hu (find_none hn)).symm
theorem perm_old {tl T : List Tm} (h : tl.Perm T) (hu : Up T) {t : Tm} (hn : hasId t.id T) : (tl.map fun u => if u.id = t.id then t else u).Perm (put t (away t.id T)) := by
  have hn2 : ∀ u ∈ away t.id T, u.id ≠ t.id := fun u hu => (mem_away.1 hu).2
  refine (h.map _).trans (List.Perm.trans ?_ (put_perm (away_up hu) hn2).symm)
  obtain ⟨u, h1, h2⟩ := hn
  have h3 := (away_perm hu h1).map fun u => if u.id = t.id then t else u
  rw [h2] at h3
  refine h3.trans ?_
  rw [List.map_cons, if_pos h2]
  refine List.Perm.cons t ?_
  have : (away t.id T).map (fun u => if u.id = t.id then t else u) = away t.id T := by
    conv => rhs; rw [← List.map_id (away t.id T)]
    apply List.map_congr_left
    intro v hv
    rw [if_neg (hn2 v hv)]
    rfl
  rw [this]
theorem perm_away {tl T : List Tm} (h : tl.Perm T) (id : Int) : (tl.filter fun t => decide (t.id ≠ id)).Perm (away id T) := h.filter _
theorem tmP_map (tl : List Tm) (t : Tm) : ((tl.map tmP).map fun p => if p.1 = t.id then (t.id, tmV t) else p) = (tl.map fun u => if u.id = t.id then t else u).map tmP := by
  rw [List.map_map, List.map_map]
  apply List.map_congr_left
  intro u _
  by_cases e : u.id = t.id
  · simp [tmP, e]
  · simp [tmP, e]
theorem tmP_filter (tl : List Tm) (id : Int) : ((tl.map tmP).filter fun p => decide (p.1 ≠ id)) = (tl.filter fun t => decide (t.id ≠ id)).map tmP := by
  rw [List.filter_map]
  rfl
theorem knP_map (tl : List Kn) (t : Kn) : ((tl.map knP).map fun p => if p.1 = t.client then (t.client, knV t) else p) = (tl.map fun u => if u.client = t.client then t else u).map knP := by
  rw [List.map_map, List.map_map]
  apply List.map_congr_left
  intro u _
  by_cases e : u.client = t.client
  · simp [knP, e]
  · simp [knP, e]
end Go.Proofs.YtoihekgmomjhpaaGreatDoor

/-
  Layer 8: what tells without changing anything: refusal, Get, Fires, settable.
-/
set_option linter.unusedVariables false
namespace Go.Proofs.YtoihekgmomjhpaaGreatDoor
open Go.RowKit Crn Nxt Ste
set_option maxRecDepth 100000
theorem results_cellA {fn : Func} {p : Tmp} {ty : TypeId} (h : fn.results = #[.cell p ty]) (tmps : Array Value) (P : Program) (w : World) :
    (results fn tmps).run P w = ((asAddr (tmps.getD p undef)).run P w).andThen fun a w1 => (loadVar ty a).run P w1 := by
  simp only [results, h]
  simp [Sem.run_bind, Result.andThen]
theorem results_tmp_cell_tmp {fn : Func} {q p u : Tmp} {ty : TypeId} (h : fn.results = #[.tmp q, .cell p ty, .tmp u]) (tmps : Array Value) (P : Program) (w : World) :
    (results fn tmps).run P w =
      ((asAddr (tmps.getD p undef)).run P w).andThen fun a w₁ => ((loadVar ty a).run P w₁).andThen fun v w₂ => .ok (.tuple #[tmps.getD q undef, v, tmps.getD u undef]) w₂ := by
  simp only [results, h]
  simp [Sem.run_bind, Result.andThen]
theorem refusal_any (e : Int) (w : World) : Calls Tryz.prog 49 #[.int .i64 e] w fun e' w' => e' = .returned (rpV ⟨e, 0, 0⟩) ∧ Below w.heap.size w w' := by
  go_enter Tryz.func49, Tryz.ntmps49
  go_wp2_with fail
  refine bodyPost_ret (v := rpV ⟨e, 0, 0⟩) ?_ rfl ?_
  · rw [results_cellA rfl]
    go_simp
  · exact ⟨rfl, (Below.refl _ _).alloc (Nat.le_refl _) _⟩
theorem hasT_false {T : List Tm} {id : Int} (h : hasT T id = false) : valT T id = zTm := by
  unfold hasT at h
  unfold valT
  cases hf : find id T with
  | none => rfl
  | some t => rw [hf] at h; cases h
def getE (T : List Tm) (id : Int) : Int := if hasT T id = true then 0 else 6
abbrev zCells : Obj := .cells #[.int .i64 0, .int .i64 0, .int .i64 0, .int .i64 0, .string ⟨#[]⟩] 55
section
variable {w : World} {b : Nat} {s : St} {cl : List Int} {x : Px} {c : Nat}
theorem alloc_old {w : World} {o : Obj} {k : Nat} (h : k < w.heap.size) : (w.alloc o).heap[k]? = w.heap[k]? := ((Below.refl w.heap.size w).alloc (Nat.le_refl _) o).block k h
theorem get_any (h : Sv w b s cl x c) (id : Int) (hid : i64 id) : Calls Tryz.prog 30 #[.pointer (some ⟨b, 0, none⟩), .int .i64 id] w fun e w' => e = .returned (.tuple #[tmV (valT s.T id), .int .i64 (getE s.T id)]) ∧ Below w.heap.size w w' := by
  have hb := (h.lt b (by simp [own])).1
  have hc := (h.below ((Below.refl w.heap.size w).alloc (Nat.le_refl _) zCells)).c2
  have hlk := (h.lookT hid (W := w.alloc zCells) (alloc_old (h.lt x.tb (by simp [own])).1)).1
  clear h hid
  cases hq : hasT s.T id with
  | false =>
    have hz := hasT_false hq
    have he : getE s.T id = 6 := by unfold getE; rw [hq]; rfl
    rw [hz, hq] at hlk
    rw [hz, he]
    clear hz hq he
    unfold zTm at *
    go_enter Tryz.func30, Tryz.ntmps30
    go_wp2_with fail
    refine bodyPost_ret (v := .tuple #[tmV zTm, .int .i64 6]) ?_ rfl ?_
    · rw [results_cell_tmp rfl]
      go_simp
      try exact ⟨rfl, rfl, rfl, rfl, rfl⟩
    · exact ⟨rfl, ((Below.refl _ _).alloc (Nat.le_refl _) _).alloc (by simp) _⟩
  | true =>
    have he : getE s.T id = 0 := by unfold getE; rw [hq]; rfl
    rw [hq] at hlk
    rw [he]
    clear hq he
    generalize valT s.T id = t at *
    go_enter Tryz.func30, Tryz.ntmps30
    go_wp2_with fail
    refine bodyPost_ret (v := .tuple #[tmV t, .int .i64 0]) ?_ rfl ?_
    · rw [results_cell_tmp rfl]
      go_simp
      try exact ⟨rfl, rfl, rfl, rfl, rfl⟩
    · exact ⟨rfl, ((Below.refl _ _).alloc (Nat.le_refl _) _).alloc (by simp) _⟩
theorem hasT_some {T : List Tm} {id : Int} (h : hasT T id = true) : find id T = some (valT T id) := by
  unfold hasT at h
  unfold valT
  cases hf : find id T with
  | none => rw [hf] at h; cases h
  | some t => rfl
theorem fires_kind {s : St} {o : OpN} (h : o.kind ≠ 3) : firesB s o = false := by
  unfold firesB
  rw [decide_eq_false h]
  rfl
theorem fires_is {s : St} {o : OpN} (h : o.kind = 3) : firesB s o = (hasT s.T o.id && decide ((valT s.T o.id).gen = o.gen) && decide ((valT s.T o.id).due = o.occ) && decide (0 < o.occ) && decide (o.occ ≤ o.stamp)) := by
  unfold firesB
  rw [decide_eq_true h]
  cases hq : hasT s.T o.id with
  | false =>
    have : find o.id s.T = none := by
      unfold hasT at hq
      cases hf : find o.id s.T with
      | none => rfl
      | some t => rw [hf] at hq; cases hq
    rw [this]
    simp
  | true => rw [hasT_some hq]; simp
set_option maxHeartbeats 4000000 in
theorem fires_any (h : Sv w b s cl x c) (o : OpN) (ho : OpOk o) : Calls Tryz.prog 67 #[.pointer (some ⟨b, 0, none⟩), opV o] w fun e w' => e = .returned (.bool (firesB s o)) ∧ Below w.heap.size w w' := by
  by_cases hk : o.kind = 3
  · have hr := Lib.hid (fires_is (s := s) hk)
    have e0 : (o.kind != 3) = false := by simp [hk]
    generalize firesB s o = R at *
    replace hk := Lib.hid hk
    have HL : Hid (∀ W, Hid (Below w.heap.size w W) → W.cell? ⟨w.heap.size, 3, none⟩ = some (.int .i64 o.id) → Hid (Below w.heap.size w W) ∧ W.cell? ⟨w.heap.size, 3, none⟩ = some (.int .i64 o.id) ∧ W.cell? ⟨b, 2, none⟩ = some (.map (some x.tb)) ∧ (Instr.lookup mt (.map (some x.tb)) (.int .i64 o.id) true).run Tryz.prog W = .ok (.tuple #[tmV (valT s.T o.id), .bool (hasT s.T o.id)]) W) := fun W k hc => ⟨k, hc, (h.below k.out).c2, (h.lookT ho.id (k.out.block x.tb (h.lt x.tb (by simp [own])).1)).1⟩
    clear h ho
    obtain ⟨okind, oclient, oreq, oid, ogen, oocc, odue, ostamp, oepoch, ocron⟩ := o
    simp only [opV, opC] at *
    go_enter Tryz.func67, Tryz.ntmps67
    go_wp2_with fail
    go_region_held3 (fun w' => Hid (Below w.heap.size w w') ∧ w'.cell? ⟨w.heap.size, 3, none⟩ = some (.int .i64 oid) ∧ w'.cell? ⟨b, 2, none⟩ = some (.map (some x.tb)) ∧ (Instr.lookup mt (.map (some x.tb)) (.int .i64 oid) true).run Tryz.prog w' = .ok (.tuple #[tmV (valT s.T oid), .bool (hasT s.T oid)]) w')
      (first
        | exact HL.out _ (((Below.refl w.heap.size w).alloc (Nat.le_refl _) _).drew) (by go_keep)
        | exact HL.out _ ((((Below.refl w.heap.size w).alloc (Nat.le_refl _) _).alloc (by simp) _).drew) (by go_keep)) (fail)
    all_goals
      clear HL
      generalize valT s.T oid = t at *
      generalize hasT s.T oid = q at *
      cases q with
      | false =>
        go_wp2_with fail
        go_ret
        exact ⟨by rw [hr.out]; simp, ((((Below.refl w.heap.size w).alloc (Nat.le_refl _) _).alloc (by simp) _).drew)⟩
      | true =>
        by_cases h1 : t.gen = ogen
        · have e1 : (t.gen == ogen) = true := by simp [h1]
          replace h1 := Lib.hid h1
          by_cases h2 : t.due = oocc
          · have e2 : (t.due == oocc) = true := by simp [h2]
            replace h2 := Lib.hid h2
            by_cases h3 : 0 < oocc
            · have e3 : decide (0 < oocc) = true := by simpa using h3
              replace h3 := Lib.hid h3
              by_cases h4 : oocc ≤ ostamp
              · have e4 : decide (oocc ≤ ostamp) = true := by simpa using h4
                replace h4 := Lib.hid h4
                go_wp2_with fail
                go_ret
                exact ⟨by rw [hr.out]; simp [h1.out, h2.out, h3.out, h4.out], ((((Below.refl w.heap.size w).alloc (Nat.le_refl _) _).alloc (by simp) _).drew)⟩
              · have e4 : decide (oocc ≤ ostamp) = false := by simpa using h4
                replace h4 := Lib.hid h4
                go_wp2_with fail
                go_ret
                exact ⟨by rw [hr.out, e4]; simp, ((((Below.refl w.heap.size w).alloc (Nat.le_refl _) _).alloc (by simp) _).drew)⟩
            · have e3 : decide (0 < oocc) = false := by simpa using h3
              replace h3 := Lib.hid h3
              go_wp2_with fail
              go_ret
              exact ⟨by rw [hr.out, e3]; simp, ((((Below.refl w.heap.size w).alloc (Nat.le_refl _) _).alloc (by simp) _).drew)⟩
          · have e2 : (t.due == oocc) = false := by simpa using h2
            replace h2 := Lib.hid h2
            go_wp2_with fail
            go_ret
            exact ⟨by rw [hr.out]; simp [h2.out], ((((Below.refl w.heap.size w).alloc (Nat.le_refl _) _).alloc (by simp) _).drew)⟩
        · have e1 : (t.gen == ogen) = false := by simpa using h1
          replace h1 := Lib.hid h1
          go_wp2_with fail
          go_ret
          exact ⟨by rw [hr.out]; simp [h1.out], ((((Below.refl w.heap.size w).alloc (Nat.le_refl _) _).alloc (by simp) _).drew)⟩
  · rw [fires_kind hk]
    have e0 : (o.kind != 3) = true := by simp [hk]
    clear h ho
    obtain ⟨okind, oclient, oreq, oid, ogen, oocc, odue, ostamp, oepoch, ocron⟩ := o
    simp only [opV, opC] at *
    replace hk := Lib.hid hk
    go_enter Tryz.func67, Tryz.ntmps67
    go_wp2_with fail
    go_ret
    exact ⟨rfl, (Below.refl _ _).alloc (Nat.le_refl _) _⟩
theorem size_no {s : ByteArray} (h : s.size = 0) : s = ⟨#[]⟩ := size_zero.2 h
theorem empty_no {s : ByteArray} (h : ¬ s.size = 0) : s.toList.isEmpty = false := by
  cases hq : s.toList.isEmpty with
  | false => rfl
  | true =>
    exfalso
    apply h
    rw [List.isEmpty_iff] at hq
    have : s.toList = s.data.toList := by simp [ByteArray.toList_eq]
    rw [this] at hq
    show s.data.size = 0
    rw [← Array.length_toList, hq]
    rfl
set_option maxHeartbeats 2000000 in
theorem settable_any (o : OpN) (w : World) : Calls Tryz.prog 113 #[opV o] w fun e w' => e = .returned (.bool (settableB o)) ∧ Below w.heap.size w w' := by
  have hr := Lib.hid (show settableB o = (decide (0 ≤ o.id) && decide (o.id ≤ 1000) && decide (0 ≤ o.due) && decide (o.due ≤ if o.cron.size = 0 then 1099511627776 else 0)) from rfl)
  obtain ⟨okind, oclient, oreq, oid, ogen, oocc, odue, ostamp, oepoch, ocron⟩ := o
  generalize settableB _ = R at *
  simp only [opV, opC] at *
  by_cases hz : ocron.size = 0
  · rw [if_pos hz] at hr
    obtain rfl := size_no hz
    clear hz
    go_enter Tryz.func113, Tryz.ntmps113
    by_cases h1 : 0 ≤ oid
    · have e1 : decide (0 ≤ oid) = true := by simpa using h1
      replace h1 := Lib.hid h1
      by_cases h2 : oid ≤ 1000
      · have e2 : decide (oid ≤ 1000) = true := by simpa using h2
        replace h2 := Lib.hid h2
        by_cases h3 : 0 ≤ odue
        · have e3 : decide (0 ≤ odue) = true := by simpa using h3
          replace h3 := Lib.hid h3
          by_cases h4 : odue ≤ 1099511627776
          · have e4 : decide (odue ≤ 1099511627776) = true := by simpa using h4
            replace h4 := Lib.hid h4
            go_wp2_with fail
            go_ret
            exact ⟨by rw [hr.out]; simp [e1, e2, e3, e4], (Below.refl w.heap.size w).alloc (Nat.le_refl _) _⟩
          · have e4 : decide (odue ≤ 1099511627776) = false := by simpa using h4
            replace h4 := Lib.hid h4
            go_wp2_with fail
            go_ret
            exact ⟨by rw [hr.out]; simp [e4], (Below.refl w.heap.size w).alloc (Nat.le_refl _) _⟩
        · have e3 : decide (0 ≤ odue) = false := by simpa using h3
          replace h3 := Lib.hid h3
          go_wp2_with fail
          go_ret
          exact ⟨by rw [hr.out]; simp [e3], (Below.refl w.heap.size w).alloc (Nat.le_refl _) _⟩
      · have e2 : decide (oid ≤ 1000) = false := by simpa using h2
        replace h2 := Lib.hid h2
        go_wp2_with fail
        go_ret
        exact ⟨by rw [hr.out]; simp [e2], (Below.refl w.heap.size w).alloc (Nat.le_refl _) _⟩
    · have e1 : decide (0 ≤ oid) = false := by simpa using h1
      replace h1 := Lib.hid h1
      go_wp2_with fail
      go_ret
      exact ⟨by rw [hr.out]; simp [e1], (Below.refl w.heap.size w).alloc (Nat.le_refl _) _⟩
  · rw [if_neg hz] at hr
    have hq := empty_no hz
    have hq2 : (!ocron.toList.isEmpty) = true := by rw [hq]; rfl
    replace hz := Lib.hid hz
    go_enter Tryz.func113, Tryz.ntmps113
    by_cases h1 : 0 ≤ oid
    · have e1 : decide (0 ≤ oid) = true := by simpa using h1
      replace h1 := Lib.hid h1
      by_cases h2 : oid ≤ 1000
      · have e2 : decide (oid ≤ 1000) = true := by simpa using h2
        replace h2 := Lib.hid h2
        by_cases h3 : 0 ≤ odue
        · have e3 : decide (0 ≤ odue) = true := by simpa using h3
          replace h3 := Lib.hid h3
          by_cases h4 : odue ≤ 0
          · have e4 : decide (odue ≤ 0) = true := by simpa using h4
            replace h4 := Lib.hid h4
            go_wp2_with fail
            go_ret
            exact ⟨by rw [hr.out]; simp [e1, e2, e3, e4], (Below.refl w.heap.size w).alloc (Nat.le_refl _) _⟩
          · have e4 : decide (odue ≤ 0) = false := by simpa using h4
            replace h4 := Lib.hid h4
            go_wp2_with fail
            go_ret
            exact ⟨by rw [hr.out]; simp [e4], (Below.refl w.heap.size w).alloc (Nat.le_refl _) _⟩
        · have e3 : decide (0 ≤ odue) = false := by simpa using h3
          replace h3 := Lib.hid h3
          go_wp2_with fail
          go_ret
          exact ⟨by rw [hr.out]; simp [e3], (Below.refl w.heap.size w).alloc (Nat.le_refl _) _⟩
      · have e2 : decide (oid ≤ 1000) = false := by simpa using h2
        replace h2 := Lib.hid h2
        go_wp2_with fail
        go_ret
        exact ⟨by rw [hr.out]; simp [e2], (Below.refl w.heap.size w).alloc (Nat.le_refl _) _⟩
    · have e1 : decide (0 ≤ oid) = false := by simpa using h1
      replace h1 := Lib.hid h1
      go_wp2_with fail
      go_ret
      exact ⟨by rw [hr.out]; simp [e1], (Below.refl w.heap.size w).alloc (Nat.le_refl _) _⟩
end
end Go.Proofs.YtoihekgmomjhpaaGreatDoor

/-
  Layer 8: the service's cache, and when a timer that is set is due.
-/
set_option linter.unusedVariables false
namespace Go.Proofs.YtoihekgmomjhpaaGreatDoor
open Go.RowKit Crn Nxt Ste
set_option maxRecDepth 100000
theorem atC_after (s : ByteArray) (a : Int) : atC s a = afterN s a := by
  unfold atC afterN
  cases parse s.data.toList <;> rfl
theorem erC_bad {s : ByteArray} (a : Int) (h : badB s = true) : erC s a = 7 := by
  unfold badB at h
  unfold erC
  cases hp : parse s.data.toList with
  | none => rfl
  | some x => rw [hp] at h; cases h
theorem erC_good {s : ByteArray} (a : Int) (h : badB s = false) : (erC s a == 7) = false := by
  unfold badB at h
  unfold erC
  cases hp : parse s.data.toList with
  | none => rw [hp] at h; cases h
  | some x =>
    show ((if (nextN x a).isSome = true then (0 : Int) else 10) == 7) = false
    split <;> rfl
section
variable {w w' : World} {b : Nat} {s : St} {cl : List Int} {x : Px} {c : Nat}
theorem Sv.ask (h : Sv w b s cl x c) (tb : Tab w) (nt : NTab w) (hc : c ≤ 900000) (str : ByteArray) (after : Int) (hs : str.size ≤ 400) (ha : i64 after) :
    Calls Tryz.prog 68 #[.pointer (some ⟨x.cb, 0, none⟩), .string str, .int .i64 after] w fun e w' => e = .returned (.tuple #[.int .i64 (afterN str after), .int .i64 (erC str after)]) ∧ ∃ x', Aft w b x w' s cl x' (c + 1) ∧ x'.cb = x.cb ∧ x'.tb = x.tb := by
  refine (cache_any w x.cb x.a x.m x.l str after tb nt (by omega) (by have := h.cnt.2; omega) (by have := h.cnt; omega) ha.1 ha.2 ?_).mono ?_
  · exact h.ca
  · rintro e w' ⟨rfl, m', l', k⟩
    exact ⟨by rw [← atC_after]; rfl, _, h.cache k, rfl, rfl⟩
theorem Tab.behind (t : Tab w) {L : List Nat} (k : Kl L w w') (hL : ∀ i, i ∈ L → topTab < i) : Tab w' := t.kl k hL
noncomputable def dueR (o : OpN) : Int := if o.cron.size ≠ 0 ∧ badB o.cron = true then 0 else dueN o
def dueE (o : OpN) : Int := if o.cron.size ≠ 0 ∧ badB o.cron = true then 7 else 0
/-- What is said behind a call of the cache. -/
structure Said (w : World) (b : Nat) (x : Px) (s : St) (cl : List Int) (c : Nat) (W w' : World) : Prop where
  c5 : w'.cell? ⟨b, 5, none⟩ = some (.pointer (some ⟨x.cb, 0, none⟩))
  new : ∀ k, w.heap.size ≤ k → k < W.heap.size → w'.heap[k]? = W.heap[k]?
  aft : ∃ x', Aft w b x w' s cl x' (c + 1)
theorem Said.cell {W : World} (h : Said w b x s cl c W w') {o : Nat} {v : Value} (hc : W.cell? ⟨w.heap.size, o, none⟩ = some v) : w'.cell? ⟨w.heap.size, o, none⟩ = some v :=
  (World.cell?_of_block (w := W) (a := ⟨w.heap.size, o, none⟩) (h.new _ (Nat.le_refl _) (World.block_lt_of_cell? _ _ hc))).trans hc
set_option maxHeartbeats 2000000 in
theorem firstDue_any (h : Sv w b s cl x c) (tb : Tab w) (nt : NTab w) (hc : c ≤ 900000) (o : OpN) (ho : OpOk o) :
    Calls Tryz.prog 114 #[.pointer (some ⟨b, 0, none⟩), opV o] w fun e w' => e = .returned (.tuple #[.int .i64 (dueR o), .int .i64 (dueE o)]) ∧ ∃ x', Aft w b x w' s cl x' (c + 1) := by
  have hbx : ∀ W : World, Below w.heap.size w W → Sv W b s cl x c := fun W k => h.below k
  by_cases hz : o.cron.size = 0
  · have e1 : dueR o = o.due := by unfold dueR dueN; rw [if_neg (fun g => g.1 hz), if_pos hz]
    have e2 : dueE o = 0 := by unfold dueE; rw [if_neg (fun g => g.1 hz)]
    rw [e1, e2]
    clear e1 e2 ho
    have fin := Lib.hid (fun o => Aft.more (Aft.ofBelow h ((Below.refl w.heap.size w).alloc (Nat.le_refl _) o)) (Nat.le_succ c))
    obtain ⟨okind, oclient, oreq, oid, ogen, oocc, odue, ostamp, oepoch, ocron⟩ := o
    obtain rfl := size_no hz
    simp only [opV, opC] at *
    clear h tb nt hc hz hbx
    go_enter Tryz.func114, Tryz.ntmps114
    go_wp2_with fail
    go_ret2
    exact ⟨rfl, x, fin.out _⟩
  · have hq := empty_no hz
    have HC : Hid (∀ W, Below w.heap.size w W → Calls Tryz.prog 68 #[.pointer (some ⟨x.cb, 0, none⟩), .string o.cron, .int .i64 o.stamp] W fun e w' => e = .returned (.tuple #[.int .i64 (afterN o.cron o.stamp), .int .i64 (erC o.cron o.stamp)]) ∧ Said w b x s cl c W w') := fun W k =>
      ((h.below k).ask (tb.below k) (nt.below k) hc o.cron o.stamp ho.cron ho.stamp).mono fun e w' ⟨he, x', A, hx⟩ => ⟨he, by have := A.sv.c5; rw [hx.1] at this; exact this, fun k1 h1 h2 => A.kept.block k1 h2 (fun g => by have := (h.lt k1 g).1; omega), x', A.before k⟩
    have H0 : Hid (∀ o : Obj, Below w.heap.size w (w.alloc o).drew ∧ (w.alloc o).drew.cell? ⟨b, 5, none⟩ = some (.pointer (some ⟨x.cb, 0, none⟩))) := fun o => ⟨((Below.refl w.heap.size w).alloc (Nat.le_refl _) o).drew, (h.below ((Below.refl w.heap.size w).alloc (Nat.le_refl _) o).drew).c5⟩
    have e1 : badB o.cron = true → dueR o = 0 ∧ dueE o = 7 := fun g => by unfold dueR dueE; rw [if_pos ⟨hz, g⟩, if_pos ⟨hz, g⟩]; exact ⟨rfl, rfl⟩
    have e2 : badB o.cron = false → dueR o = afterN o.cron o.stamp ∧ dueE o = 0 := fun g => by
      have gn : ¬ (o.cron.size ≠ 0 ∧ badB o.cron = true) := fun g2 => by rw [g] at g2; cases g2.2
      unfold dueR dueE dueN
      rw [if_neg gn, if_neg gn, if_neg hz]
      exact ⟨rfl, rfl⟩
    replace e1 := Lib.hid e1
    replace e2 := Lib.hid e2
    have g1 := Lib.hid (erC_bad (s := o.cron) o.stamp)
    have g2 := Lib.hid (erC_good (s := o.cron) o.stamp)
    have hbs := (h.lt b (by simp [own])).1
    clear h
    replace hz := Lib.hid hz
    clear tb nt hc ho hbx
    generalize dueR o = DR at *
    generalize dueE o = DE at *
    obtain ⟨okind, oclient, oreq, oid, ogen, oocc, odue, ostamp, oepoch, ocron⟩ := o
    simp only [opV, opC] at *
    generalize afterN ocron ostamp = A at *
    generalize erC ocron ostamp = E at *
    go_enter Tryz.func114, Tryz.ntmps114
    go_wp2_with fail
    obtain ⟨b0, c5⟩ := H0.out (.cells #[.int .i64 okind, .int .i64 oclient, .int .i64 oreq, .int .i64 oid, .int .i64 ogen, .int .i64 oocc, .int .i64 odue, .int .i64 ostamp, .int .i64 oepoch, .string ocron] 31)
    have c7 : (w.alloc (.cells #[.int .i64 okind, .int .i64 oclient, .int .i64 oreq, .int .i64 oid, .int .i64 ogen, .int .i64 oocc, .int .i64 odue, .int .i64 ostamp, .int .i64 oepoch, .string ocron] 31)).drew.cell? ⟨w.heap.size, 7, none⟩ = some (.int .i64 ostamp) := cell_in (Go.heap_alloc_new w _) 7
    have c9 : (w.alloc (.cells #[.int .i64 okind, .int .i64 oclient, .int .i64 oreq, .int .i64 oid, .int .i64 ogen, .int .i64 oocc, .int .i64 odue, .int .i64 ostamp, .int .i64 oepoch, .string ocron] 31)).drew.cell? ⟨w.heap.size, 9, none⟩ = some (.string ocron) := cell_in (Go.heap_alloc_new w _) 9
    replace b0 := Lib.hid b0
    go_region_held3 (fun w' => w'.cell? ⟨b, 5, none⟩ = some (.pointer (some ⟨x.cb, 0, none⟩)) ∧ w'.cell? ⟨w.heap.size, 7, none⟩ = some (.int .i64 ostamp) ∧ w'.cell? ⟨w.heap.size, 9, none⟩ = some (.string ocron))
      (first | exact ⟨d5, d7, d9⟩ | exact ⟨c5, c7, c9⟩)
      ((go_at_call 68; refine (HC.out _ b0.out).mono ?_; rintro e w6 ⟨rfl, A6⟩; have d5 := A6.c5; have d7 := A6.cell c7; have d9 := A6.cell c9; replace A6 := Lib.hid A6.aft))
    clear c5 c7 c9 d5 d7 d9 HC H0 b0
    cases hB : badB ocron with
    | true =>
      obtain ⟨r1, r2⟩ := e1.out hB
      have g := g1.out hB
      subst g
      replace r1 := Lib.hid r1
      replace r2 := Lib.hid r2
      clear e1 e2 g1 g2
      replace hB := Lib.hid hB
      go_wp2_with fail
      go_ret2
      exact ⟨by rw [r1.out, r2.out]; rfl, A6.out⟩
    | false =>
      obtain ⟨r1, r2⟩ := e2.out hB
      have g := g2.out hB
      replace r1 := Lib.hid r1
      replace r2 := Lib.hid r2
      clear e1 e2 g1 g2
      replace hB := Lib.hid hB
      go_wp2_with fail
      go_ret2
      exact ⟨by rw [r1.out, r2.out]; rfl, A6.out⟩
end
end Go.Proofs.YtoihekgmomjhpaaGreatDoor
