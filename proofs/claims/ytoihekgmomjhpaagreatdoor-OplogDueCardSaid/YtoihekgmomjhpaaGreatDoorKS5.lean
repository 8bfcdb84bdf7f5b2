/-
  Texts laid into one (a claim has 60 files at most): SAsk3, SNew, SApply.
-/
import Derived.Test.YtoihekgmomjhpaaGreatDoorKS4
import Derived.Deep.RegionHeld3
import Derived.Deep.RegionLaw
import Derived.Test.YtoihekgmomjhpaaGreatDoorKS2
import Derived.Maps.AppendAt
import Derived.OwnWalk
import Derived.Lib.AppendZeros
import Derived.Lib.MinMax
import Derived.WalkSpells
/-
  Layer 8: a client's request that is done.
-/
set_option linter.unusedVariables false
namespace Go.Proofs.YtoihekgmomjhpaaGreatDoor
open Go.RowKit Crn Nxt Ste
set_option maxRecDepth 100000
theorem step_append_st {P : Program} {ops : Array Oper} {o : Oper} {a : Act} {w : World} {K : Act → World → Prop} {Q : Exit → Act → World → Prop} {E : Prop}
    (hg : o.guard = none) (d x : Operand) (dT sT : TypeId) (hop : o.op = Op.call { callee := Callee.builtin Builtin.append, args := #[d, x], argTypes := #[dT, sT] })
    (v u : Value) (hd : a.eval d = v) (hx : a.eval x = u) {v' : Value} {w' : World} (hr : (Builtin.append_ #[dT, sT] o.type #[v, u]).run P w = .ok v' w') (hK : K (a.put o.dst v') w') :
    if Region.wanted o (yielded ops a.tmps) = true then Oper.wp P o a w K Q else E := by
  have hw : Region.wanted o (yielded ops a.tmps) = true := by simp [Region.wanted, hg]
  rw [if_pos hw]
  unfold Oper.wp
  simp [execOp, hop, resolve, invoke, builtin, hd, hx, hr, Result.andThen]
  exact hK
section
variable {w w' : World} {b : Nat} {s : St} {cl : List Int} {x : Px} {c : Nat}
/-- The service with all that is said of it. -/
structure SS (w : World) (b : Nat) (s : St) (x : Px) (c : Nat) : Prop where
  sv : Sv w b s (clOf s) x c
  kp : x.kl.Perm s.K
structure AftS (w : World) (b : Nat) (x : Px) (w' : World) (s' : St) (x' : Px) (c' : Nat) : Prop where
  ss : SS w' b s' x' c'
  kept : Kl (Go.Proofs.YtoihekgmomjhpaaGreatDoor.own x b) w w'
  own : ∀ k, k ∈ Go.Proofs.YtoihekgmomjhpaaGreatDoor.own x' b → k ∈ Go.Proofs.YtoihekgmomjhpaaGreatDoor.own x b ∨ w.heap.size ≤ k
theorem Aft.toS {s' : St} {x' : Px} {c' : Nat} (hk : x.kl.Perm s.K) (A : Aft w b x w' s' (clOf s') x' c') (hK : s'.K = s.K) : AftS w b x w' s' x' c' := ⟨⟨A.sv, by rw [A.kl, hK]; exact hk⟩, A.kept, A.own⟩
theorem Sv.congr (h : Sv w b s cl x c) {s' : St} (h1 : s'.room = s.room) (h2 : s'.gens = s.gens) (h3 : s'.T = s.T) (ok : Ok s') : Sv w b s' cl x c :=
  ⟨by rw [h1, h2]; exact h.blk, h.tm, by rw [h3]; exact h.tp, h.km, h.row, h.ca, h.cnt, h.hb, h.ht, h.hl, h.sep, ok, by rw [h2]; exact h.gc⟩
/-- The last request of a client is remembered. -/
theorem Sv.putK {W : World} (h : Sv W b s cl x c) {K : List Kn} (hK : x.kl.Perm K) (hap : Apart K) (hkn : ∀ j ∈ K, KnOk j) (k : Kn) (hk : KnOk k) {K' : List Kn}
    (hK' : (hasK K k.client = true ∧ K' = renew k K) ∨ (hasK K k.client = false ∧ K' = K ++ [k])) :
    ∃ w', (Instr.mapUpdate ml (.map (some x.lb)) (.int .i64 k.client) (knV k)).run Tryz.prog W = .ok () w' ∧ ∃ x', Sv w' b s cl x' c ∧ Kl (own x b) W w' ∧ own x' b = own x b ∧ x'.lb = x.lb ∧ x'.kl.Perm K' := by
  have hl : ∀ p ∈ x.kl.map knP, I64 p.1 := fun p hp => by
    obtain ⟨t, ht, rfl⟩ := List.mem_map.1 hp
    exact (hkn t (hK.mem_iff.1 ht)).client
  have hd : (x.kl.map knP).Pairwise fun p q => p.1 ≠ q.1 := by
    rw [List.pairwise_map]
    exact (hK.pairwise_iff (fun {a b} g e => g e.symm)).2 hap
  rcases hK' with ⟨hq, rfl⟩ | ⟨hq, rfl⟩
  · obtain ⟨h1, h2⟩ := known_some (hasK_some hq)
    have hp : (k.client, knV (valK K k.client)) ∈ x.kl.map knP := List.mem_map.2 ⟨valK K k.client, hK.mem_iff.2 h1, by unfold knP; rw [h2]⟩
    obtain ⟨w', r, v, g, z⟩ := vupdate mapL h.km hl hd hp (knV k)
    rw [knP_map] at v
    obtain ⟨s1, k1⟩ := h.last v g
    exact ⟨w', r, _, s1, k1, rfl, rfl, hK.map _⟩
  · have hn : ∀ p ∈ x.kl.map knP, p.1 ≠ k.client := fun p hp => by
      obtain ⟨u, hu, rfl⟩ := List.mem_map.1 hp
      exact known_none (hasK_none hq) u (hK.mem_iff.1 hu)
    obtain ⟨w', r, v, g, z⟩ := vinsert mapL h.km hl (knV k) hk.client hn
    obtain ⟨s1, k1⟩ := h.last (kl' := x.kl ++ [k]) (by rw [List.map_append]; exact v) g
    exact ⟨w', r, _, s1, k1, rfl, rfl, hK.append_right [k]⟩
theorem Aft.thenS {W1 W2 w5 : World} {s1 s' : St} {xB x5 : Px} {c1 c5 : Nat} (A : Aft W1 b x W2 s1 cl xB c1) (B : AftS W2 b xB w5 s' x5 c5) : AftS W1 b x w5 s' x5 c5 := by
  have hs := A.kept.size
  refine ⟨B.ss, ⟨B.kept.os.trans A.kept.os, B.kept.tape.trans A.kept.tape, B.kept.output.trans A.kept.output, Nat.le_trans hs B.kept.size, fun i hi hn => (B.kept.block i (Nat.lt_of_lt_of_le hi hs) (fun e => by
    rcases A.own i e with g | g
    · exact hn g
    · omega)).trans (A.kept.block i hi hn)⟩, fun i hi => ?_⟩
  rcases B.own i hi with g | g
  · exact A.own i g
  · right; omega
theorem SS.kept (h : SS w b s x c) {L : List Nat} (k : Kl L w w') (hL : ∀ i, i ∈ L → i ∉ Go.Proofs.YtoihekgmomjhpaaGreatDoor.own x b) : SS w' b s x c := ⟨h.sv.kept k hL, h.kp⟩
theorem AftS.store {s' : St} {x' : Px} {c' r : Nat} (A : AftS w b x w' s' x' c') (hr : w.heap.size ≤ r) (hn : r ∉ Go.Proofs.YtoihekgmomjhpaaGreatDoor.own x' b) (v0 v1 v2 : Value) :
    AftS w b x (((w'.setCell ⟨r, 0, none⟩ v0).setCell ⟨r, 1, none⟩ v1).setCell ⟨r, 2, none⟩ v2) s' x' c' := by
  have kr : Kl [r] w' (((w'.setCell ⟨r, 0, none⟩ v0).setCell ⟨r, 1, none⟩ v1).setCell ⟨r, 2, none⟩ v2) := (((Kl.refl _ _).setCell (by simp) 0 v0).setCell (by simp) 1 v1).setCell (by simp) 2 v2
  refine ⟨A.ss.kept kr (fun i hi => by simp only [List.mem_singleton] at hi; subst hi; exact hn), ⟨kr.os.trans A.kept.os, kr.tape.trans A.kept.tape, kr.output.trans A.kept.output, Nat.le_trans A.kept.size kr.size, fun i hi h2 => (kr.block i (Nat.lt_of_lt_of_le hi A.kept.size) (by simp only [List.mem_singleton]; omega)).trans (A.kept.block i hi h2)⟩, A.own⟩
set_option maxHeartbeats 8000000 in
theorem ask_again (h : SS w b s x c) (tb : Tab w) (nt : NTab w) (hc : c ≤ 900000) (o : OpN) (ho : OpOk o) (hky : (o.kind = 1 ∨ o.kind = 2) ∧ hasK s.K o.client = true ∧ ¬ o.req < (valK s.K o.client).req ∧ ¬ (valK s.K o.client).req = o.req) :
    Calls Tryz.prog 50 #[.pointer (some ⟨b, 0, none⟩), opV o] w fun e w' => e = .returned (rpV (askN s o).2) ∧ ∃ x', AftS w b x w' (askN s o).1 x' (c + 1) := by
  rw [ask_next hky.2.1 hky.2.2.1 hky.2.2.2]
  have hlt := Lib.hid (fun i hi => (h.sv.lt i hi).1)
  have B0 := Lib.hid (Bx.start w o)
  have HL : Hid (∀ W, Below w.heap.size w W → W.heap[w.heap.size]? = some (opO o) → W.cell? ⟨b, 4, none⟩ = some (.map (some x.lb)) ∧ W.cell? ⟨w.heap.size, 1, none⟩ = some (.int .i64 o.client) ∧ (Instr.lookup ml (.map (some x.lb)) (.int .i64 o.client) true).run Tryz.prog W = .ok (.tuple #[knV (valK s.K o.client), .bool (hasK s.K o.client)]) W) := fun W k hop => ⟨(h.sv.below k).c4, (op_cells hop).2.1, (h.sv.below k).lookK h.kp ho.client rfl⟩
  have hch := change_chg h.sv.ok ho
  have hS : Hid (∀ W, Below w.heap.size w W → Sv W b s (clOf s) x c) := fun W k => h.sv.below k
  have cH : Hid (∀ W xA, Aft w b x W s (clOf s) xA c → Calls Tryz.prog 66 #[.pointer (some ⟨b, 0, none⟩), opV o] W fun e w' => e = .returned (rpV (changeN s o).2) ∧ ∃ x', Aft W b xA w' (changeN s o).1 (clOf s) x' (c + 1)) := fun W xA A =>
    change_any A.sv (tb.behind A.kept (fun i hi => (h.sv.lt i hi).2)) (nt.kl A.kept (fun i hi => (h.sv.lt i hi).2)) hc o ho
  -- what is remembered in the end
  have HP : Hid (∀ W xA xB, Aft w b x W s (clOf s) xA c → ∀ W2, Aft W b xA W2 (changeN s o).1 (clOf s) xB (c + 1) → ∃ w', (Instr.mapUpdate ml (.map (some xB.lb)) (.int .i64 o.client) (knV ⟨o.client, o.req, (changeN s o).2⟩)).run Tryz.prog W2 = .ok () w' ∧ w'.cell? ⟨b, 4, none⟩ = some (.map (some xB.lb)) ∧ (∀ i, i < W2.heap.size → i ∉ own xB b → w'.heap[i]? = W2.heap[i]?) ∧ ∃ x', AftS W2 b xB w' { (changeN s o).1 with K := renew ⟨o.client, o.req, (changeN s o).2⟩ s.K } x' (c + 1)) := fun W xA xB A1 W2 A2 => by
    have hkl : xB.kl.Perm s.K := by rw [A2.kl, A1.kl]; exact h.kp
    have hk : KnOk ⟨o.client, o.req, (changeN s o).2⟩ := ⟨ho.client, ho.req, hch.rp⟩
    obtain ⟨w', r, x', s1, k1, e1, e2, p1⟩ := A2.sv.putK hkl h.sv.ok.apart h.sv.ok.kn ⟨o.client, o.req, (changeN s o).2⟩ hk (K' := renew ⟨o.client, o.req, (changeN s o).2⟩ s.K) (.inl ⟨hky.2.1, rfl⟩)
    have hok : Ok { (changeN s o).1 with K := renew ⟨o.client, o.req, (changeN s o).2⟩ s.K } := by
      have := (apply_ok h.sv.ok ho (by have := h.sv.gc; omega)).1
      rw [show applyN s o = askN s o by unfold applyN; rw [if_pos hky.1], ask_next hky.2.1 hky.2.2.1 hky.2.2.2] at this
      exact this
    refine ⟨w', r, by have := s1.c4; rw [e2] at this; exact this, k1.block, x', ⟨⟨?_, p1⟩, k1, fun i hi => .inl (by rw [← e1]; exact hi)⟩⟩
    have s2 := s1.congr (s' := { (changeN s o).1 with K := renew ⟨o.client, o.req, (changeN s o).2⟩ s.K }) rfl rfl rfl hok
    rw [show clOf ({ (changeN s o).1 with K := renew ⟨o.client, o.req, (changeN s o).2⟩ s.K } : St) = (clOf s) from renew_clients _ _]
    exact s2
  replace hch := True.intro
  replace hc := Lib.hid hc
  obtain ⟨hkd, hys⟩ := hky
  replace hkd := Lib.hid hkd
  clear h tb nt ho
  obtain ⟨okind, oclient, oreq, oid, ogen, oocc, odue, ostamp, oepoch, ocron⟩ := o
  try simp only [opV, opC, opO, rpO] at *
  generalize changeN s _ = R at *
  obtain ⟨s1, rerr, rgen, rdue⟩ := R
  try simp only at *
  go_enter Tryz.func50, Tryz.ntmps50
  go_wp2_with fail
  obtain ⟨w1, hw1⟩ : ∃ w1, (w.alloc (.cells #[.int .i64 okind, .int .i64 oclient, .int .i64 oreq, .int .i64 oid, .int .i64 ogen, .int .i64 oocc, .int .i64 odue, .int .i64 ostamp, .int .i64 oepoch, .string ocron] 31)).alloc (.cells #[.int .i64 0, .int .i64 0, .int .i64 0] 34) = w1 := ⟨_, rfl⟩
  rw [hw1] at B0 ⊢
  replace hw1 := True.intro
  obtain ⟨c4, p1, lk⟩ := HL.out w1.drew B0.out.bel.drew B0.out.op
  have HK : Hid (∀ o : Obj, (w1.alloc o).drew.cell? ⟨b, 4, none⟩ = some (.map (some x.lb)) ∧ (w1.alloc o).drew.cell? ⟨w.heap.size, 1, none⟩ = some (.int .i64 oclient) ∧ (Instr.lookup ml (.map (some x.lb)) (.int .i64 oclient) true).run Tryz.prog (w1.alloc o).drew = .ok (.tuple #[knV (valK s.K oclient), .bool (hasK s.K oclient)]) (w1.alloc o).drew) := fun o => by
    have B3 := B0.out.below ((Below.refl w1.heap.size w1).alloc (Nat.le_refl _) o).drew
    exact HL.out _ B3.bel B3.op
  clear HL
  generalize valK s.K oclient = k at *
  generalize hasK s.K oclient = q at *
  obtain ⟨kc, kreq, kerr, kgen, kdue⟩ := k
  try simp only at *
  go_region_held3 (fun w' => w'.cell? ⟨b, 4, none⟩ = some (.map (some x.lb)) ∧ w'.cell? ⟨w.heap.size, 1, none⟩ = some (.int .i64 oclient) ∧ (Instr.lookup ml (.map (some x.lb)) (.int .i64 oclient) true).run Tryz.prog w' = .ok (.tuple #[.agg #[.int .i64 kreq, .int .i64 kerr, .int .i64 kgen, .int .i64 kdue], .bool q]) w')
    (first | exact ⟨c4, p1, lk⟩ | exact HK.out _) (fail)
  all_goals
    clear c4 p1 lk HK
    have k2 := ((Below.refl w1.heap.size w1).alloc (Nat.le_refl _) (.cells #[.int .i64 kreq, .int .i64 kerr, .int .i64 kgen, .int .i64 kdue] 150)).drew
    have B2 := Lib.hid (B0.out.below k2)
    have L5 : Hid ((w1.alloc (.cells #[.int .i64 kreq, .int .i64 kerr, .int .i64 kgen, .int .i64 kdue] 150)).drew.heap[w1.heap.size]? = some (.cells #[.int .i64 kreq, .int .i64 kerr, .int .i64 kgen, .int .i64 kdue] 150)) := Go.heap_alloc_new w1 _
    clear k2
    generalize (w1.alloc (.cells #[.int .i64 kreq, .int .i64 kerr, .int .i64 kgen, .int .i64 kdue] 150)).drew = w2 at *
    generalize w1.heap.size = g5 at *
    obtain ⟨rfl, h2, h3⟩ := hys
    have m0 : w2.cell? ⟨g5, 0, none⟩ = some (.int .i64 kreq) := cell_in L5.out 0
    obtain ⟨p0, p1, p2, p3, p4, p5, p6, p7, p8, p9⟩ := op_cells B2.out.op
    have e1 : decide (oreq < kreq) = false := by simpa using h2
    have e2 : (kreq == oreq) = false := by simpa using h3
    replace h2 := Lib.hid h2
    replace h3 := Lib.hid h3
    have A2 := Lib.hid (Aft.ofBelow (hS.out w (Below.refl _ _)) B2.out.bel)
    have NA : Hid (∀ k, k ∈ own x b → k < w.heap.size ∨ w2.heap.size ≤ k) := fun k hk => .inl (hlt.out k hk)
    have op2 := Lib.hid B2.out.op
    have rp2 := Lib.hid B2.out.rp
    have hle : Hid (w2.heap.size ≤ w2.heap.size) := Nat.le_refl _
    have hB2 := Lib.hid B2.out.lt
    go_wp2_with fail
    refine (cH.out w2 x A2.out).mono ?_
    rintro e w3 ⟨rfl, xB, A3⟩
    clear p0 p1 p2 p3 p4 p5 p6 p7 p8 p9
    have NB : Hid (∀ k, k ∈ own xB b → k < w.heap.size ∨ w2.heap.size ≤ k) := fun k hk => by
      rcases A3.own k hk with e | e
      · exact NA.out k e
      · exact .inr (Nat.le_trans hle.out e)
    have NBl : Hid (∀ k, k ∈ own xB b → k < w3.heap.size) := fun k hk => (A3.sv.lt k hk).1
    have nA : ∀ i, w.heap.size ≤ i → i < w2.heap.size → i ∉ own x b := fun i h1 h2 h3 => by have := NA.out i h3; omega
    have op3 := Lib.hid ((A3.kept.block w.heap.size (lt_in op2.out) (nA _ (Nat.le_refl _) (by have := hB2.out; omega))).trans op2.out)
    have rp3 := Lib.hid ((A3.kept.block (w.heap.size + 1) (lt_in rp2.out) (nA _ (by omega) hB2.out)).trans rp2.out)
    replace A3 := Lib.hid A3
    clear nA op2 rp2
    go_wp2_with fail
    have k4 := ((Below.refl w3.heap.size w3).alloc (Nat.le_refl _) (.cells #[.int .i64 rerr, .int .i64 rgen, .int .i64 rdue] 34)).drew
    have A4 := Lib.hid (A3.out.below k4)
    have op4 := Lib.hid ((k4.block _ (lt_in op3.out)).trans op3.out)
    have rp4 := Lib.hid ((k4.block _ (lt_in rp3.out)).trans rp3.out)
    have n4 : Hid ((w3.alloc (.cells #[.int .i64 rerr, .int .i64 rgen, .int .i64 rdue] 34)).drew.heap[w3.heap.size]? = some (.cells #[.int .i64 rerr, .int .i64 rgen, .int .i64 rdue] 34)) := Go.heap_alloc_new w3 _
    obtain ⟨w5, hrun5, d4, hk5, x5, A5⟩ := HP.out w2 x xB A2.out _ A4.out
    have c4 := A4.out.sv.c4
    obtain ⟨p0, p1, p2, p3, p4, p5, p6, p7, p8, p9⟩ := op_cells op4.out
    obtain ⟨n0, n1, n2, nz0, nz1, nz2⟩ := rp_cells n4.out
    have op5 := (hk5 w.heap.size (lt_in op4.out) (fun e => by have := NB.out _ e; have := hB2.out; omega)).trans op4.out
    have rp5 := (hk5 (w.heap.size + 1) (lt_in rp4.out) (fun e => by have := NB.out _ e; have := hB2.out; omega)).trans rp4.out
    have n5 := (hk5 w3.heap.size (lt_in n4.out) (fun e => by have := NBl.out _ e; omega)).trans n4.out
    obtain ⟨s0, r1, r2, s3, s4, s5, s6, s7, s8, s9⟩ := op_cells op5
    obtain ⟨m0, m1, m2, mz0, mz1, mz2⟩ := rp_cells n5
    obtain ⟨q0, q1, q2, z0, z1, z2⟩ := rp_cells rp5
    have hr5 : Hid (w.heap.size + 1 ∉ own x5 b) := fun e => by
      rcases A5.own _ e with g | g
      · have := NB.out _ g; have := hB2.out; omega
      · have := lt_in rp4.out; omega
    have A6 := Lib.hid (A2.out.thenS (A4.out.thenS A5))
    replace k4 := True.intro
    clear op5 rp5 n5 A5 hk5 A4 op4 rp4 n4 op3 rp3 A3 HP cH p0 p3 p4 p5 p6 p7 p8 p9 nz0 nz1 nz2 s0 s3 s4 s5 s6 s7 s8 s9 mz0 mz1 mz2
    simp only [knV] at hrun5
    go_region_held3 (fun w' => w'.cell? ⟨b, 4, none⟩ = some (.map (some xB.lb)) ∧ w'.cell? ⟨w.heap.size, 1, none⟩ = some (.int .i64 oclient) ∧ w'.cell? ⟨w.heap.size, 2, none⟩ = some (.int .i64 oreq) ∧ w'.cell? ⟨w3.heap.size, 0, none⟩ = some (.int .i64 rerr) ∧ w'.cell? ⟨w3.heap.size, 1, none⟩ = some (.int .i64 rgen) ∧ w'.cell? ⟨w3.heap.size, 2, none⟩ = some (.int .i64 rdue))
      (first | exact ⟨c4, p1, p2, n0, n1, n2⟩ | exact ⟨d4, r1, r2, m0, m1, m2⟩) (fail)
    all_goals
      clear c4 p1 p2 n0 n1 n2 d4 r1 r2 hrun5
      go_wp2_with fail
      refine bodyPost_ret (v := rpV ⟨rerr, rgen, rdue⟩) ?_ rfl ?_
      · rw [results_cellA rfl]
        go_simp
      · exact ⟨rfl, x5, AftS.store A6.out (by omega) hr5.out _ _ _⟩
set_option maxHeartbeats 8000000 in
theorem ask_new (h : SS w b s x c) (tb : Tab w) (nt : NTab w) (hc : c ≤ 900000) (o : OpN) (ho : OpOk o) (hky : (o.kind = 1 ∨ o.kind = 2) ∧ hasK s.K o.client = false ∧ ¬ 3 ≤ s.K.length) :
    Calls Tryz.prog 50 #[.pointer (some ⟨b, 0, none⟩), opV o] w fun e w' => e = .returned (rpV (askN s o).2) ∧ ∃ x', AftS w b x w' (askN s o).1 x' (c + 1) := by
  rw [ask_first hky.2.1 hky.2.2]
  have hlt := Lib.hid (fun i hi => (h.sv.lt i hi).1)
  have B0 := Lib.hid (Bx.start w o)
  have HL : Hid (∀ W, Below w.heap.size w W → W.heap[w.heap.size]? = some (opO o) → W.cell? ⟨b, 4, none⟩ = some (.map (some x.lb)) ∧ W.cell? ⟨w.heap.size, 1, none⟩ = some (.int .i64 o.client) ∧ (Instr.lookup ml (.map (some x.lb)) (.int .i64 o.client) true).run Tryz.prog W = .ok (.tuple #[knV (valK s.K o.client), .bool (hasK s.K o.client)]) W) := fun W k hop => ⟨(h.sv.below k).c4, (op_cells hop).2.1, (h.sv.below k).lookK h.kp ho.client rfl⟩
  have hch := change_chg h.sv.ok ho
  have hS : Hid (∀ W, Below w.heap.size w W → Sv W b s (clOf s) x c) := fun W k => h.sv.below k
  have cH : Hid (∀ W xA, Aft w b x W s (clOf s ++ [o.client]) xA c → Calls Tryz.prog 66 #[.pointer (some ⟨b, 0, none⟩), opV o] W fun e w' => e = .returned (rpV (changeN s o).2) ∧ ∃ x', Aft W b xA w' (changeN s o).1 (clOf s ++ [o.client]) x' (c + 1)) := fun W xA A =>
    change_any A.sv (tb.behind A.kept (fun i hi => (h.sv.lt i hi).2)) (nt.kl A.kept (fun i hi => (h.sv.lt i hi).2)) hc o ho
  -- what is remembered in the end
  have HP : Hid (∀ W xA xB, Aft w b x W s (clOf s ++ [o.client]) xA c → ∀ W2, Aft W b xA W2 (changeN s o).1 (clOf s ++ [o.client]) xB (c + 1) → ∃ w', (Instr.mapUpdate ml (.map (some xB.lb)) (.int .i64 o.client) (knV ⟨o.client, o.req, (changeN s o).2⟩)).run Tryz.prog W2 = .ok () w' ∧ w'.cell? ⟨b, 4, none⟩ = some (.map (some xB.lb)) ∧ (∀ i, i < W2.heap.size → i ∉ own xB b → w'.heap[i]? = W2.heap[i]?) ∧ ∃ x', AftS W2 b xB w' { (changeN s o).1 with K := s.K ++ [⟨o.client, o.req, (changeN s o).2⟩] } x' (c + 1)) := fun W xA xB A1 W2 A2 => by
    have hkl : xB.kl.Perm s.K := by rw [A2.kl, A1.kl]; exact h.kp
    have hk : KnOk ⟨o.client, o.req, (changeN s o).2⟩ := ⟨ho.client, ho.req, hch.rp⟩
    obtain ⟨w', r, x', s1, k1, e1, e2, p1⟩ := A2.sv.putK hkl h.sv.ok.apart h.sv.ok.kn ⟨o.client, o.req, (changeN s o).2⟩ hk (K' := s.K ++ [⟨o.client, o.req, (changeN s o).2⟩]) (.inr ⟨hky.2.1, rfl⟩)
    have hok : Ok { (changeN s o).1 with K := s.K ++ [⟨o.client, o.req, (changeN s o).2⟩] } := by
      have := (apply_ok h.sv.ok ho (by have := h.sv.gc; omega)).1
      rw [show applyN s o = askN s o by unfold applyN; rw [if_pos hky.1], ask_first hky.2.1 hky.2.2] at this
      exact this
    refine ⟨w', r, by have := s1.c4; rw [e2] at this; exact this, k1.block, x', ⟨⟨?_, p1⟩, k1, fun i hi => .inl (by rw [← e1]; exact hi)⟩⟩
    have s2 := s1.congr (s' := { (changeN s o).1 with K := s.K ++ [⟨o.client, o.req, (changeN s o).2⟩] }) rfl rfl rfl hok
    rw [show clOf ({ (changeN s o).1 with K := s.K ++ [⟨o.client, o.req, (changeN s o).2⟩] } : St) = (clOf s ++ [o.client]) from by simp [clOf]]
    exact s2
  replace hch := True.intro
  replace hc := Lib.hid hc
  obtain ⟨hkd, hys⟩ := hky
  replace hkd := Lib.hid hkd
  have hlen : ((clOf s).length : Int) = (s.K.length : Int) := by simp [clOf]
  have hlen2 : (clOf s).length ≤ 3 := by have := h.sv.ok.few; simp [clOf]; omega
  generalize clOf s = CL at *
  replace hlen := Lib.hid hlen
  replace hlen2 := Lib.hid hlen2
  clear h tb nt ho
  obtain ⟨okind, oclient, oreq, oid, ogen, oocc, odue, ostamp, oepoch, ocron⟩ := o
  try simp only [opV, opC, opO, rpO] at *
  generalize changeN s _ = R at *
  obtain ⟨s1, rerr, rgen, rdue⟩ := R
  try simp only at *
  go_enter Tryz.func50, Tryz.ntmps50
  go_wp2_with fail
  obtain ⟨w1, hw1⟩ : ∃ w1, (w.alloc (.cells #[.int .i64 okind, .int .i64 oclient, .int .i64 oreq, .int .i64 oid, .int .i64 ogen, .int .i64 oocc, .int .i64 odue, .int .i64 ostamp, .int .i64 oepoch, .string ocron] 31)).alloc (.cells #[.int .i64 0, .int .i64 0, .int .i64 0] 34) = w1 := ⟨_, rfl⟩
  rw [hw1] at B0 ⊢
  replace hw1 := True.intro
  obtain ⟨c4, p1, lk⟩ := HL.out w1.drew B0.out.bel.drew B0.out.op
  have HK : Hid (∀ o : Obj, (w1.alloc o).drew.cell? ⟨b, 4, none⟩ = some (.map (some x.lb)) ∧ (w1.alloc o).drew.cell? ⟨w.heap.size, 1, none⟩ = some (.int .i64 oclient) ∧ (Instr.lookup ml (.map (some x.lb)) (.int .i64 oclient) true).run Tryz.prog (w1.alloc o).drew = .ok (.tuple #[knV (valK s.K oclient), .bool (hasK s.K oclient)]) (w1.alloc o).drew) := fun o => by
    have B3 := B0.out.below ((Below.refl w1.heap.size w1).alloc (Nat.le_refl _) o).drew
    exact HL.out _ B3.bel B3.op
  clear HL
  generalize valK s.K oclient = k at *
  generalize hasK s.K oclient = q at *
  obtain ⟨kc, kreq, kerr, kgen, kdue⟩ := k
  try simp only at *
  go_region_held3 (fun w' => w'.cell? ⟨b, 4, none⟩ = some (.map (some x.lb)) ∧ w'.cell? ⟨w.heap.size, 1, none⟩ = some (.int .i64 oclient) ∧ (Instr.lookup ml (.map (some x.lb)) (.int .i64 oclient) true).run Tryz.prog w' = .ok (.tuple #[.agg #[.int .i64 kreq, .int .i64 kerr, .int .i64 kgen, .int .i64 kdue], .bool q]) w')
    (first | exact ⟨c4, p1, lk⟩ | exact HK.out _) (fail)
  all_goals
    clear c4 p1 lk HK
    have k2 := ((Below.refl w1.heap.size w1).alloc (Nat.le_refl _) (.cells #[.int .i64 kreq, .int .i64 kerr, .int .i64 kgen, .int .i64 kdue] 150)).drew
    have B2 := Lib.hid (B0.out.below k2)
    have L5 : Hid ((w1.alloc (.cells #[.int .i64 kreq, .int .i64 kerr, .int .i64 kgen, .int .i64 kdue] 150)).drew.heap[w1.heap.size]? = some (.cells #[.int .i64 kreq, .int .i64 kerr, .int .i64 kgen, .int .i64 kdue] 150)) := Go.heap_alloc_new w1 _
    clear k2
    generalize (w1.alloc (.cells #[.int .i64 kreq, .int .i64 kerr, .int .i64 kgen, .int .i64 kdue] 150)).drew = w2 at *
    generalize w1.heap.size = g5 at *
    obtain ⟨rfl, h2⟩ := hys
    have m0 : w2.cell? ⟨g5, 0, none⟩ = some (.int .i64 kreq) := cell_in L5.out 0
    have e1 : decide (3 ≤ (CL.length : Int)) = false := by simp only [decide_eq_false_iff_not]; rw [hlen.out]; omega
    have e2 : decide (3 ≤ CL.length) = false := by have := of_decide_eq_false e1; exact decide_eq_false (by omega)
    have c3 := (hS.out _ B2.out.bel).c3
    have p1 := (op_cells B2.out.op).2.1
    have kv : Below w2.heap.size w2 (w2.alloc (.cells #[.int .i64 oclient] 3)).drew := ((Below.refl _ _).alloc (Nat.le_refl _) _).drew
    have Bv := B2.out.below kv
    have hvn : w2.heap.size ∉ own x b := fun g => by have := hlt.out _ g; have := B2.out.lt; omega
    obtain ⟨p', cap', w8, hrun, c8, f8, hk8, xA, A8⟩ := (hS.out _ Bv.bel).pushC hlen2.out oclient w2.heap.size (Go.heap_alloc_new w2 _) hvn
    have a3 := (hS.out (w2.alloc (.cells #[.int .i64 oclient] 3)) (B2.out.below ((Below.refl _ _).alloc (Nat.le_refl _) _)).bel).c3
    have a1 := (op_cells (B2.out.below ((Below.refl w2.heap.size w2).alloc (Nat.le_refl _) (.cells #[.int .i64 oclient] 3))).op).2.1
    have A2 := Lib.hid (Aft.before Bv.bel A8)
    have hB2 := Lib.hid B2.out.lt
    have NA : Hid (∀ k, k ∈ own xA b → k < w.heap.size ∨ w2.heap.size ≤ k) := fun k hk => by
      rcases A8.own k hk with e | e
      · exact .inl (hlt.out k e)
      · exact .inr (Nat.le_trans kv.size e)
    have hnb : ∀ i, w.heap.size ≤ i → i < (w2.alloc (.cells #[.int .i64 oclient] 3)).drew.heap.size → (w8.setCell ⟨b, 3, none⟩ (.slice p' (CL.length + 1) cap')).heap[i]? = (w2.alloc (.cells #[.int .i64 oclient] 3)).drew.heap[i]? := fun i h1 h2 => A8.kept.block i h2 (fun e => by have := hlt.out i e; omega)
    have op2 := Lib.hid ((hnb w.heap.size (Nat.le_refl _) (lt_in Bv.op)).trans Bv.op)
    have rp2 := Lib.hid ((hnb (w.heap.size + 1) (by omega) (lt_in Bv.rp)).trans Bv.rp)
    have hle : Hid (w2.heap.size ≤ (w8.setCell ⟨b, 3, none⟩ (.slice p' (CL.length + 1) cap')).heap.size) := Nat.le_trans kv.size A8.kept.size
    replace h2 := Lib.hid h2
    clear kv Bv hvn hk8 A8 hnb
    go_upto_region 9 with fail
    clear m0 e1 e2
    replace hrun := Lib.hid hrun
    go_region_law (refine step_append_st (by rfl) _ _ 106 106 (by rfl) _ _ (by rfl) (by rfl) hrun.out ?_)
    all_goals
      clear c3 p1 hrun c8 f8 a3 a1
      generalize w8.setCell ⟨b, 3, none⟩ (.slice p' (CL.length + 1) cap') = w9 at *
      obtain ⟨p0, p1, p2, p3, p4, p5, p6, p7, p8, p9⟩ := op_cells op2.out
      go_wp2_with fail
      refine (cH.out w9 xA A2.out).mono ?_
      rintro e w3 ⟨rfl, xB, A3⟩
      clear p0 p1 p2 p3 p4 p5 p6 p7 p8 p9
      have NB : Hid (∀ k, k ∈ own xB b → k < w.heap.size ∨ w2.heap.size ≤ k) := fun k hk => by
        rcases A3.own k hk with e | e
        · exact NA.out k e
        · exact .inr (Nat.le_trans hle.out e)
      have NBl : Hid (∀ k, k ∈ own xB b → k < w3.heap.size) := fun k hk => (A3.sv.lt k hk).1
      have nA : ∀ i, w.heap.size ≤ i → i < w2.heap.size → i ∉ own xA b := fun i h1 h2 h3 => by have := NA.out i h3; omega
      have op3 := Lib.hid ((A3.kept.block w.heap.size (lt_in op2.out) (nA _ (Nat.le_refl _) (by have := hB2.out; omega))).trans op2.out)
      have rp3 := Lib.hid ((A3.kept.block (w.heap.size + 1) (lt_in rp2.out) (nA _ (by omega) hB2.out)).trans rp2.out)
      replace A3 := Lib.hid A3
      clear nA op2 rp2
      go_wp2_with fail
      have k4 := ((Below.refl w3.heap.size w3).alloc (Nat.le_refl _) (.cells #[.int .i64 rerr, .int .i64 rgen, .int .i64 rdue] 34)).drew
      have A4 := Lib.hid (A3.out.below k4)
      have op4 := Lib.hid ((k4.block _ (lt_in op3.out)).trans op3.out)
      have rp4 := Lib.hid ((k4.block _ (lt_in rp3.out)).trans rp3.out)
      have n4 : Hid ((w3.alloc (.cells #[.int .i64 rerr, .int .i64 rgen, .int .i64 rdue] 34)).drew.heap[w3.heap.size]? = some (.cells #[.int .i64 rerr, .int .i64 rgen, .int .i64 rdue] 34)) := Go.heap_alloc_new w3 _
      obtain ⟨w5, hrun5, d4, hk5, x5, A5⟩ := HP.out w9 xA xB A2.out _ A4.out
      have c4 := A4.out.sv.c4
      obtain ⟨p0, p1, p2, p3, p4, p5, p6, p7, p8, p9⟩ := op_cells op4.out
      obtain ⟨n0, n1, n2, nz0, nz1, nz2⟩ := rp_cells n4.out
      have op5 := (hk5 w.heap.size (lt_in op4.out) (fun e => by have := NB.out _ e; have := hB2.out; omega)).trans op4.out
      have rp5 := (hk5 (w.heap.size + 1) (lt_in rp4.out) (fun e => by have := NB.out _ e; have := hB2.out; omega)).trans rp4.out
      have n5 := (hk5 w3.heap.size (lt_in n4.out) (fun e => by have := NBl.out _ e; omega)).trans n4.out
      obtain ⟨s0, r1, r2, s3, s4, s5, s6, s7, s8, s9⟩ := op_cells op5
      obtain ⟨m0, m1, m2, mz0, mz1, mz2⟩ := rp_cells n5
      obtain ⟨q0, q1, q2, z0, z1, z2⟩ := rp_cells rp5
      have hr5 : Hid (w.heap.size + 1 ∉ own x5 b) := fun e => by
        rcases A5.own _ e with g | g
        · have := NB.out _ g; have := hB2.out; omega
        · have := lt_in rp4.out; omega
      have A6 := Lib.hid (A2.out.thenS (A4.out.thenS A5))
      replace k4 := True.intro
      clear op5 rp5 n5 A5 hk5 A4 op4 rp4 n4 op3 rp3 A3 HP cH p0 p3 p4 p5 p6 p7 p8 p9 nz0 nz1 nz2 s0 s3 s4 s5 s6 s7 s8 s9 mz0 mz1 mz2
      simp only [knV] at hrun5
      go_region_held3 (fun w' => w'.cell? ⟨b, 4, none⟩ = some (.map (some xB.lb)) ∧ w'.cell? ⟨w.heap.size, 1, none⟩ = some (.int .i64 oclient) ∧ w'.cell? ⟨w.heap.size, 2, none⟩ = some (.int .i64 oreq) ∧ w'.cell? ⟨w3.heap.size, 0, none⟩ = some (.int .i64 rerr) ∧ w'.cell? ⟨w3.heap.size, 1, none⟩ = some (.int .i64 rgen) ∧ w'.cell? ⟨w3.heap.size, 2, none⟩ = some (.int .i64 rdue))
        (first | exact ⟨c4, p1, p2, n0, n1, n2⟩ | exact ⟨d4, r1, r2, m0, m1, m2⟩) (fail)
      all_goals
        clear c4 p1 p2 n0 n1 n2 d4 r1 r2 hrun5
        go_wp2_with fail
        refine bodyPost_ret (v := rpV ⟨rerr, rgen, rdue⟩) ?_ rfl ?_
        · rw [results_cellA rfl]
          go_simp
        · exact ⟨rfl, x5, AftS.store A6.out (by omega) hr5.out _ _ _⟩
end
end Go.Proofs.YtoihekgmomjhpaaGreatDoor

/-
  Layer 8: New, Clients, Last; what is none.
-/
set_option linter.unusedVariables false
namespace Go.Proofs.YtoihekgmomjhpaaGreatDoor
open Go.RowKit Crn Nxt Ste
set_option maxRecDepth 100000
section
variable {w w' : World} {b : Nat} {s : St} {cl : List Int} {x : Px} {c : Nat}
theorem st_new (timers : Int) (ht : i64 timers) (w : World) (hw : topTab < w.heap.size) :
    Calls Tryz.prog 27 #[.int .i64 timers] w fun e w' => e = .returned (.pointer (some ⟨w.heap.size + 3, 0, none⟩)) ∧ Below w.heap.size w w' ∧ ∃ x, Sv w' (w.heap.size + 3) (newN timers) [] x 0 ∧ x.kl = [] ∧ ∀ k, k ∈ own x (w.heap.size + 3) → w.heap.size ≤ k := by
  have cN := Lib.hid (fun W (h : topTab < W.heap.size) => new_any W h)
  have hR : ((min (max timers 1) 16).toNat : Int) = min (max timers 1) 16 := by omega
  have h1 := ht.1
  have h2 := ht.2
  have hN : newN timers = ⟨(min (max timers 1) 16).toNat, 0, [], []⟩ := rfl
  have hok := Lib.hid (new_ok timers)
  rw [hN] at hok ⊢
  generalize hR2 : (min (max timers 1) 16).toNat = R at *
  have hRl : min (max timers 1) 16 = (R : Int) := hR.symm
  replace hR := Lib.hid hR
  replace hRl := Lib.hid hRl
  replace hR2 := Lib.hid hR2
  replace hN := True.intro
  replace hw := Lib.hid hw
  have mk1 := fun W => vmake mt W
  have mk2 := fun W => vmake ml W
  go_enter Tryz.func27, Tryz.ntmps27
  go_wp2_with fail
  refine (cN.out _ (by simp; have := hw.out; omega)).mono ?_
  rintro e w2 ⟨rfl, ca, k2, hs2⟩
  have z2 : ((w.alloc (.map #[] 0)).alloc (.map #[] 0)).heap.size = w.heap.size + 2 := by simp
  rw [z2] at ca k2 hs2 ⊢
  have m0 : VMap w2 w.heap.size ((([] : List Tm)).map tmP) := (VMap.made w).kept ((k2.block _ (by omega)).trans (alloc_old (by simp)))
  have m1 : VMap w2 (w.heap.size + 1) ((([] : List Kn)).map knP) := by
    have e := VMap.made (w.alloc (.map #[] 0))
    rw [World.size_alloc] at e
    exact e.kept (k2.block _ (by omega))
  have b2 : Below w.heap.size w w2 := (((Below.refl w.heap.size w).alloc (Nat.le_refl _) _).alloc (by simp) _).trans (k2.mono (by omega))
  replace ca := Lib.hid ca
  replace k2 := Lib.hid k2
  replace m0 := Lib.hid m0
  replace m1 := Lib.hid m1
  replace b2 := Lib.hid b2
  have hs3 : Hid (w2.heap.size = w.heap.size + 3) := by unfold Hid; omega
  clear hs2 z2 mk1 mk2 cN
  go_wp2_with fail
  go_ret
  have hw0 := hw.out
  have hs4 := hs3.out
  have k3 : Below w2.heap.size w2 (w2.alloc (.cells #[.int .i64 (min (max timers 1) 16), .int .i64 0, .map (some w.heap.size), .slice none 0 0, .map (some (w.heap.size + 1)), .pointer (some ⟨w.heap.size + 2, 0, none⟩)] ts)) := (Below.refl _ _).alloc (Nat.le_refl _) _
  refine ⟨by rw [hs4]; rfl, b2.out.trans (k3.mono b2.out.size), ⟨w.heap.size, w.heap.size + 1, w.heap.size + 2, none, 0, 0, none, [], [], []⟩, ⟨?_, m0.out.kept (k3.block _ m0.out.lt), List.Perm.refl _, m1.out.kept (k3.block _ m1.out.lt), World.ownsRow_nil _ _ _ _, ca.out.below k3, ⟨Nat.le_refl _, Nat.le_refl _⟩, by omega, by show topTab < w.heap.size; omega, by show topTab < w.heap.size + 1; omega, ⟨by show w.heap.size ≠ w.heap.size + 1; omega, by simp, by simp⟩, hok.out, Nat.le_refl _⟩, rfl, fun k hk => ?_⟩
  · have e := Go.heap_alloc_new w2 (.cells #[.int .i64 (min (max timers 1) 16), .int .i64 0, .map (some w.heap.size), .slice none 0 0, .map (some (w.heap.size + 1)), .pointer (some ⟨w.heap.size + 2, 0, none⟩)] ts)
    rw [hs4, hRl.out] at e
    rw [hRl.out]
    exact e
  · simp only [own, rowOf, owned, Value.ownBlock, Option.toList, List.mem_cons, List.mem_append, List.map_nil, List.not_mem_nil, or_false, false_or] at hk
    rcases hk with rfl | rfl | rfl | rfl <;> omega
end
end Go.Proofs.YtoihekgmomjhpaaGreatDoor

/-
  Layer 8: Apply and Last.
-/
set_option linter.unusedVariables false
namespace Go.Proofs.YtoihekgmomjhpaaGreatDoor
open Go.RowKit Crn Nxt Ste
set_option maxRecDepth 100000
section
variable {w w' : World} {b : Nat} {s : St} {cl : List Int} {x : Px} {c : Nat}
theorem AftS.ofBelow (h : SS w b s x c) (k : Below w.heap.size w w') : AftS w b x w' s x c := ⟨⟨h.sv.below k, h.kp⟩, Kl.ofBelow k, fun _ hi => .inl hi⟩
theorem SS.mono (h : SS w b s x c) {c' : Nat} (hc : c ≤ c') : SS w b s x c' := ⟨h.sv.mono hc, h.kp⟩
theorem AftS.more {s' : St} {x' : Px} {c' c'' : Nat} (h : AftS w b x w' s' x' c') (hc : c' ≤ c'') : AftS w b x w' s' x' c'' := ⟨h.ss.mono hc, h.kept, h.own⟩
theorem SS.below (h : SS w b s x c) (k : Below w.heap.size w w') : SS w' b s x c := ⟨h.sv.below k, h.kp⟩
theorem ask_any (h : SS w b s x c) (tb : Tab w) (nt : NTab w) (hc : c ≤ 900000) (o : OpN) (ho : OpOk o) (hk : o.kind = 1 ∨ o.kind = 2) :
    Calls Tryz.prog 50 #[.pointer (some ⟨b, 0, none⟩), opV o] w fun e w' => e = .returned (rpV (askN s o).2) ∧ ∃ x', AftS w b x w' (askN s o).1 x' (c + 1) := by
  have early : ∀ r, askN s o = (s, r) → Calls Tryz.prog 50 #[.pointer (some ⟨b, 0, none⟩), opV o] w (fun e w' => e = .returned (rpV r) ∧ Aft w b x w' s (clOf s) x c) → Calls Tryz.prog 50 #[.pointer (some ⟨b, 0, none⟩), opV o] w fun e w' => e = .returned (rpV (askN s o).2) ∧ ∃ x', AftS w b x w' (askN s o).1 x' (c + 1) := fun r hr hc2 => by
    rw [hr]
    exact hc2.mono fun e w' ⟨he, A⟩ => ⟨he, x, (A.toS h.kp rfl).more (Nat.le_succ _)⟩
  cases hq : hasK s.K o.client with
  | true =>
    by_cases h1 : o.req < (valK s.K o.client).req
    · exact early _ (ask_old hq h1) (ask_early h.sv h.kp o ho _ (.inl ⟨hq, h1, rfl⟩))
    · by_cases h2 : (valK s.K o.client).req = o.req
      · exact early _ (ask_same hq h1 h2) (ask_early h.sv h.kp o ho _ (.inr (.inl ⟨hq, h1, h2, rfl⟩)))
      · exact ask_again h tb nt hc o ho ⟨hk, hq, h1, h2⟩
  | false =>
    by_cases h1 : 3 ≤ s.K.length
    · exact early _ (ask_full hq h1) (ask_early h.sv h.kp o ho _ (.inr (.inr ⟨hq, h1, rfl⟩)))
    · exact ask_new h tb nt hc o ho ⟨hk, hq, h1⟩
theorem fireN_K (s : St) (o : OpN) : (fireN s o).1.K = s.K := by
  unfold fireN
  split
  · rfl
  · split <;> rfl
theorem fire_any (h : SS w b s x c) (tb : Tab w) (nt : NTab w) (hc : c ≤ 900000) (o : OpN) (ho : OpOk o) :
    Calls Tryz.prog 51 #[.pointer (some ⟨b, 0, none⟩), opV o] w fun e w' => e = .returned (rpV (fireN s o).2) ∧ ∃ x', AftS w b x w' (fireN s o).1 x' (c + 1) := by
  have hK := fireN_K s o
  have hcl : clOf (fireN s o).1 = clOf s := by unfold clOf; rw [hK]
  cases hf : firesB s o with
  | true => exact (fire_done h.sv tb nt hc o ho hf).mono fun e w' ⟨he, x', A⟩ => ⟨he, x', by rw [← hcl] at A; exact A.toS h.kp hK⟩
  | false => exact (fire_refused h.sv o ho hf).mono fun e w' ⟨he, x', A⟩ => ⟨he, x', by rw [← hcl] at A; exact (A.toS h.kp hK).more (Nat.le_succ _)⟩
set_option maxHeartbeats 4000000 in
theorem apply_any (h : SS w b s x c) (tb : Tab w) (nt : NTab w) (hc : c ≤ 900000) (o : OpN) (ho : OpOk o) :
    Calls Tryz.prog 31 #[.pointer (some ⟨b, 0, none⟩), opV o] w fun e w' => e = .returned (rpV (applyN s o).2) ∧ ∃ x', AftS w b x w' (applyN s o).1 x' (c + 1) := by
  have hlt := Lib.hid (fun i hi => (h.sv.lt i hi).1)
  have B0 := Lib.hid (Bx.start w o)
  have qT : ∀ (w : World) (r : Option Nat), (binOp .eql mt (.map r) (.map none)).run Tryz.prog w = .ok (.bool r.isNone) w := fun w r => run_eql_map_nil w _ _ _ r mapT
  have cA : Hid (∀ W, Below w.heap.size w W → (o.kind = 1 ∨ o.kind = 2) → Calls Tryz.prog 50 #[.pointer (some ⟨b, 0, none⟩), opV o] W fun e w' => e = .returned (rpV (askN s o).2) ∧ ∃ x', AftS W b x w' (askN s o).1 x' (c + 1)) := fun W k hk => ask_any (h.below k) (tb.below k) (nt.below k) hc o ho hk
  have cF : Hid (∀ W, Below w.heap.size w W → Calls Tryz.prog 51 #[.pointer (some ⟨b, 0, none⟩), opV o] W fun e w' => e = .returned (rpV (fireN s o).2) ∧ ∃ x', AftS W b x w' (fireN s o).1 x' (c + 1)) := fun W k => fire_any (h.below k) (tb.below k) (nt.below k) hc o ho
  have cR := Lib.hid refusal_any
  have hS : Hid (∀ W, Below w.heap.size w W → AftS W b x W s x c) := fun W k => AftS.ofBelow (h.below k) (Below.refl _ _)
  have nob : Hid (∀ (x' : Px) (W w' : World) (s' : St) (c' : Nat), Bx w W o → AftS W b x w' s' x' c' → AftS w b x w' s' x' c' ∧ w.heap.size + 1 ∉ own x' b ∧ w'.heap[w.heap.size + 1]? = some rpO) := fun x' W w' s' c' B A => by
    have hB := B.lt
    refine ⟨⟨A.ss, (Kl.ofBelow B.bel).trans A.kept, fun i hi => ?_⟩, fun e => ?_, (A.kept.block _ hB (fun e => by have := hlt.out _ e; omega)).trans B.rp⟩
    · rcases A.own i hi with g | g
      · exact .inl g
      · right; have := B.bel.size; omega
    · rcases A.own _ e with g | g
      · have := hlt.out _ g; omega
      · omega
  obtain ⟨p0, p1, p2, p3, p4, p5, p6, p7, p8, p9⟩ := op_cells B0.out.op
  have c2 := (h.sv.below B0.out.bel).c2
  clear h tb nt ho
  have fin : ∀ R : St × Rp, applyN s o = R → applyN s o = R := fun _ h => h
  by_cases hk : o.kind = 1 ∨ o.kind = 2
  · have hR : applyN s o = askN s o := by unfold applyN; rw [if_pos hk]
    rw [hR]
    have cA2 : Hid (∀ W, Below w.heap.size w W → Calls Tryz.prog 50 #[.pointer (some ⟨b, 0, none⟩), opV o] W fun e w' => e = .returned (rpV (askN s o).2) ∧ ∃ x', AftS W b x w' (askN s o).1 x' (c + 1)) := fun W k => cA.out W k hk
    generalize askN s o = R at *
    clear hR cA cF cR hS fin
    have hkk : (o.kind == 1) = true ∨ ((o.kind == 1) = false ∧ (o.kind == 2) = true) := by
      rcases hk with e | e
      · exact .inl (by simp [e])
      · exact .inr ⟨by simp [e], by simp [e]⟩
    replace hk := Lib.hid hk
    obtain ⟨okind, oclient, oreq, oid, ogen, oocc, odue, ostamp, oepoch, ocron⟩ := o
    obtain ⟨s', rerr, rgen, rdue⟩ := R
    simp only [opV, opC, opO, rpO] at *
    rcases hkk with e1 | ⟨e1, e2⟩
    all_goals
      go_enter Tryz.func31, Tryz.ntmps31
      go_wp2_with fail
      refine (cA2.out _ B0.out.bel).mono ?_
      rintro e w2 ⟨rfl, x2, A2⟩
      obtain ⟨A3, n3, r3⟩ := nob.out x2 _ _ _ _ B0.out A2
      obtain ⟨q0, q1, q2, z0, z1, z2⟩ := rp_cells r3
      replace A3 := Lib.hid A3
      replace n3 := Lib.hid n3
      clear p0 p1 p2 p3 p4 p5 p6 p7 p8 p9 cA2 A2 r3 c2 qT nob
      go_wp2_with fail
      refine bodyPost_ret (v := rpV ⟨rerr, rgen, rdue⟩) ?_ rfl ?_
      · rw [results_cellA rfl]
        go_simp
      · exact ⟨rfl, x2, AftS.store A3.out (by omega) n3.out _ _ _⟩
  · have e1 : (o.kind == 1) = false := by simp only [beq_eq_false_iff_ne]; omega
    have e2 : (o.kind == 2) = false := by simp only [beq_eq_false_iff_ne]; omega
    by_cases hk3 : o.kind = 3
    · have hR : applyN s o = fireN s o := by unfold applyN; rw [if_neg hk, if_pos hk3]
      have e3 : (o.kind == 3) = true := by simp [hk3]
      rw [hR]
      generalize fireN s o = R at *
      clear hR cA cR hS fin
      replace hk := Lib.hid hk
      replace hk3 := Lib.hid hk3
      obtain ⟨okind, oclient, oreq, oid, ogen, oocc, odue, ostamp, oepoch, ocron⟩ := o
      obtain ⟨s', rerr, rgen, rdue⟩ := R
      simp only [opV, opC, opO, rpO] at *
      go_enter Tryz.func31, Tryz.ntmps31
      go_wp2_with fail
      refine (cF.out _ B0.out.bel).mono ?_
      rintro e w2 ⟨rfl, x2, A2⟩
      obtain ⟨A3, n3, r3⟩ := nob.out x2 _ _ _ _ B0.out A2
      obtain ⟨q0, q1, q2, z0, z1, z2⟩ := rp_cells r3
      replace A3 := Lib.hid A3
      replace n3 := Lib.hid n3
      clear p0 p1 p2 p3 p4 p5 p6 p7 p8 p9 cF A2 r3 c2 qT nob
      go_wp2_with fail
      refine bodyPost_ret (v := rpV ⟨rerr, rgen, rdue⟩) ?_ rfl ?_
      · rw [results_cellA rfl]
        go_simp
      · exact ⟨rfl, x2, AftS.store A3.out (by omega) n3.out _ _ _⟩
    · have hR : applyN s o = (s, ⟨1, 0, 0⟩) := by unfold applyN; rw [if_neg hk, if_neg hk3]
      have e3 : (o.kind == 3) = false := by simpa using hk3
      rw [hR]
      clear hR cA cF fin
      replace hk := Lib.hid hk
      replace hk3 := Lib.hid hk3
      obtain ⟨okind, oclient, oreq, oid, ogen, oocc, odue, ostamp, oepoch, ocron⟩ := o
      simp only [opV, opC, opO, rpO] at *
      go_enter Tryz.func31, Tryz.ntmps31
      go_wp2_with fail
      refine (cR.out 1 _).mono ?_
      rintro e w2 ⟨rfl, k2⟩
      have B2 := B0.out.below k2
      obtain ⟨A3, n3, r3⟩ := nob.out x _ _ _ _ B2 (hS.out _ B2.bel)
      obtain ⟨q0, q1, q2, z0, z1, z2⟩ := rp_cells r3
      replace A3 := Lib.hid A3
      replace n3 := Lib.hid n3
      clear p0 p1 p2 p3 p4 p5 p6 p7 p8 p9 k2 B2 r3 c2 qT nob hS
      go_wp2_with fail
      refine bodyPost_ret (v := rpV ⟨1, 0, 0⟩) ?_ rfl ?_
      · rw [results_cellA rfl]
        go_simp
      · exact ⟨rfl, x, (AftS.store A3.out (by omega) n3.out _ _ _).more (Nat.le_succ _)⟩
end
end Go.Proofs.YtoihekgmomjhpaaGreatDoor
