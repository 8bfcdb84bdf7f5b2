/-
  Layer 8: texts laid into one (a claim has 60 files at most): SRefJ, SRefL, SRefM, SRefQ.
-/
import Derived.Test.YtiidhcpflplpiaaGreatDoorSB
/-
  Layer 8: the document's own service: a request that is new: it is done, and remembered.
-/
set_option linter.unusedVariables false
namespace Go.Proofs.YtiidhcpflplpiaaGreatDoor
open Go.RowKit Crn Nxt Ste
set_option maxRecDepth 100000
section
variable {base : Nat} {w : World} {r : Nat} {s : St} {p : Option Addr} {cap : Nat} {q : Option Addr} {cq : Nat}
theorem rg_end (h : Rf base w r s p cap q cq) {w8 : World} (hk : Kl [r] w w8) {s8 : St} {p8 : Option Addr} {cap8 : Nat} {q8 : Option Addr} {cq8 : Nat} (R8 : Rf base w8 r s8 p8 cap8 q8 cq8) (frp : ∀ g, g ∈ rowOf p8 → g ∈ rowOf p ∨ w.heap.size + 1 < g) (frq : ∀ g, g ∈ rowOf q8 → g ∈ rowOf q ∨ w.heap.size + 1 < g) (v0 v1 v2 : Value) :
    Rg base w r p q (((w8.setCell ⟨w.heap.size + 1, 0, none⟩ v0).setCell ⟨w.heap.size + 1, 1, none⟩ v1).setCell ⟨w.heap.size + 1, 2, none⟩ v2) s8 := by
  have hne : ∀ g, (g = r ∨ g ∈ rowOf p8 ∨ g ∈ rowOf q8) → g ≠ w.heap.size + 1 := fun g hg => by
    rcases hg with rfl | hg | hg
    · have := h.rlt; omega
    · rcases frp g hg with g1 | g1
      · have := (h.tow.lt g1).2; omega
      · omega
    · rcases frq g hg with g1 | g1
      · have := (h.kow.lt g1).2; omega
      · omega
  refine ⟨⟨p8, cap8, q8, cq8, R8.same fun g hg => ?_, fun g hg => ?_, fun g hg => ?_⟩, ?_⟩
  · exact ((Below.heap_setCell _ _ _ _ (hne g hg)).trans (Below.heap_setCell _ _ _ _ (hne g hg))).trans (Below.heap_setCell _ _ _ _ (hne g hg))
  · rcases frp g hg with g1 | g1
    · exact .inl g1
    · exact .inr (by omega)
  · rcases frq g hg with g1 | g1
    · exact .inl g1
    · exact .inr (by omega)
  · have hkl : Kl [r, w.heap.size + 1] w w8 := hk.mono fun k hk => by simp only [List.mem_singleton] at hk; subst hk; simp
    exact (((hkl.setCell (by simp) _ _).setCell (by simp) _ _).setCell (by simp) _ _).mono fun k hk => by
      simp only [List.mem_cons, List.not_mem_nil, or_false] at hk
      rcases hk with rfl | rfl
      · simp
      · exact .inr (by omega)
/-- What is said where the answer is still to be written. -/
structure KEnd (base : Nat) (w : World) (r : Nat) (p q : Option Addr) (w9 : World) (b6 : Nat) (R : Rp) (s9 : St) : Prop where
  hbr : w9.heap[w.heap.size + 1]? = some (.cells #[.int .i64 0, .int .i64 0, .int .i64 0] 34)
  hb6 : w9.heap[b6]? = some (.cells #[.int .i64 R.err, .int .i64 R.gen, .int .i64 R.due] 34)
  rg : Rg base w r p q (((w9.setCell ⟨w.heap.size + 1, 0, none⟩ (.int .i64 R.err)).setCell ⟨w.heap.size + 1, 1, none⟩ (.int .i64 R.gen)).setCell ⟨w.heap.size + 1, 2, none⟩ (.int .i64 R.due)) s9
theorem know_end {b6 : Nat} {R : Rp} {kn : Kn} {wz w6 : World} {S0 : St} {P0 : Option Addr} {C0 : Nat} {Q0 : Option Addr} {CQ0 c6 : Nat} {p6 : Option Addr} (h : Rf base w r s p cap q cq) (RZ : Rf base wz r S0 P0 C0 Q0 CQ0) (kz : Kl [r] w wz) (frp : ∀ g, g ∈ rowOf P0 → g ∈ rowOf p ∨ w.heap.size + 1 < g) (hl6 : w.heap.size + 1 < b6 ∧ b6 < wz.heap.size)
    (hbrz : wz.heap[w.heap.size + 1]? = some (.cells #[.int .i64 0, .int .i64 0, .int .i64 0] 34)) (hb6z : wz.heap[b6]? = some (.cells #[.int .i64 R.err, .int .i64 R.gen, .int .i64 R.due] 34)) (hk3 : S0.K.length < 1000)
    (o6 : w6.ownsRow wz.heap.size 50 5 (.slice p6 (S0.K.length + 1) c6) (S0.K.length + 1) (flatW encK (S0.K ++ [kn]))) (bz6 : Below wz.heap.size wz w6) :
    KEnd base w r p q (w6.setCell ⟨r, 3, none⟩ (.slice p6 (S0.K.length + 1) c6)) b6 R { S0 with K := S0.K ++ [kn] } := by
  have hrl := h.rlt
  have fin : Rf base (w6.setCell ⟨r, 3, none⟩ (.slice p6 (S0.K.length + 1) c6)) r { S0 with K := S0.K ++ [kn] } P0 C0 p6 c6 :=
    RZ.setK (bz6.block r RZ.rlt) (fun g hg => bz6.block g (RZ.tow.lt hg).2) (row_lowK o6 (by have := RZ.hb; have := RZ.rlt; omega)) (by simp) (by simp; omega)
  have k9 : Kl [r] w (w6.setCell ⟨r, 3, none⟩ (.slice p6 (S0.K.length + 1) c6)) := (kz.trans (Kl.ofBelow bz6)).setCell (by simp) _ _
  refine ⟨?_, ?_, rg_end h k9 fin frp (fun g hg => .inr ?_) _ _ _⟩
  · exact (Below.heap_setCell w6 ⟨r, 3, none⟩ _ (w.heap.size + 1) (by show w.heap.size + 1 ≠ r; omega)).trans ((bz6.block (w.heap.size + 1) (by omega)).trans hbrz)
  · exact (Below.heap_setCell w6 ⟨r, 3, none⟩ _ b6 (by show b6 ≠ r; omega)).trans ((bz6.block b6 hl6.2).trans hb6z)
  · have := (World.ownsRow.lt o6 g (own_row.2 hg)).1
    omega
abbrev o19_0 : Oper := { dst := some 104, op := Go.Op.move (Go.Operand.tmp 0), type := 27, pos := "ref.go:125", after := #[], guard := none }
abbrev o19_1 : Oper := { dst := some 105, op := Go.Op.buildSlice 45 0 #[], type := 45, pos := "ref.go:125", after := #[], guard := none }
abbrev o19_2 : Oper := { dst := some 106, op := Go.Op.move (Go.Operand.tmp 0), type := 27, pos := "ref.go:125", after := #[], guard := none }
abbrev o19_3 : Oper := { dst := some 107, op := Go.Op.nilCheck (Go.Operand.tmp 106), type := 0, pos := "ref.go:125", after := #[{ on := 2, ground := Go.Ground.data }], guard := none }
abbrev o19_4 : Oper := { dst := some 108, op := Go.Op.fieldAddr 47 (Go.Operand.tmp 107) 3, type := 0, pos := "ref.go:125", after := #[{ on := 3, ground := Go.Ground.data }], guard := none }
abbrev o19_5 : Oper := { dst := some 109, op := Go.Op.load 45 (Go.Operand.tmp 108), type := 45, pos := "ref.go:125", after := #[{ on := 4, ground := Go.Ground.data }], guard := none }
abbrev o19_6 : Oper := { dst := some 110, op := Go.Op.call { callee := Go.Callee.builtin Go.Builtin.append, args := #[Go.Operand.tmp 105, Go.Operand.tmp 109], argTypes := #[45, 45] }, type := 45, pos := "ref.go:125", after := #[{ on := 1, ground := Go.Ground.data }, { on := 5, ground := Go.Ground.data }], guard := none }
abbrev o19_7 : Oper := { dst := some 111, op := Go.Op.fieldAddr 30 (Go.Operand.tmp 3) 1, type := 0, pos := "ref.go:125", after := #[], guard := none }
abbrev o19_8 : Oper := { dst := some 112, op := Go.Op.load 3 (Go.Operand.tmp 111), type := 3, pos := "ref.go:125", after := #[{ on := 7, ground := Go.Ground.data }], guard := none }
abbrev o19_9 : Oper := { dst := some 113, op := Go.Op.fieldAddr 30 (Go.Operand.tmp 3) 2, type := 0, pos := "ref.go:125", after := #[], guard := none }
abbrev o19_10 : Oper := { dst := some 114, op := Go.Op.load 3 (Go.Operand.tmp 113), type := 3, pos := "ref.go:125", after := #[{ on := 9, ground := Go.Ground.data }], guard := none }
abbrev o19_11 : Oper := { dst := some 115, op := Go.Op.load 34 (Go.Operand.tmp 6), type := 34, pos := "ref.go:125", after := #[], guard := none }
abbrev o19_12 : Oper := { dst := some 116, op := Go.Op.build 50 #[(0, Go.Operand.tmp 112), (1, Go.Operand.tmp 114), (2, Go.Operand.tmp 115)], type := 50, pos := "ref.go:125", after := #[{ on := 8, ground := Go.Ground.data }, { on := 10, ground := Go.Ground.data }, { on := 11, ground := Go.Ground.data }], guard := none }
abbrev o19_13 : Oper := { dst := some 117, op := Go.Op.buildSlice 45 1 #[(0, Go.Operand.tmp 116)], type := 45, pos := "ref.go:125", after := #[{ on := 12, ground := Go.Ground.data }], guard := none }
abbrev o19_14 : Oper := { dst := some 118, op := Go.Op.call { callee := Go.Callee.builtin Go.Builtin.append, args := #[Go.Operand.tmp 110, Go.Operand.tmp 117], argTypes := #[45, 45] }, type := 45, pos := "ref.go:125", after := #[{ on := 6, ground := Go.Ground.data }, { on := 13, ground := Go.Ground.data }, { on := 6, ground := Go.Ground.chain }], guard := none }
abbrev o19_15 : Oper := { dst := some 119, op := Go.Op.nilCheck (Go.Operand.tmp 104), type := 0, pos := "ref.go:125", after := #[{ on := 0, ground := Go.Ground.data }, { on := 0, ground := Go.Ground.phase }, { on := 1, ground := Go.Ground.phase }, { on := 2, ground := Go.Ground.phase }, { on := 3, ground := Go.Ground.phase }, { on := 4, ground := Go.Ground.phase }, { on := 5, ground := Go.Ground.phase }, { on := 6, ground := Go.Ground.phase }, { on := 7, ground := Go.Ground.phase }, { on := 8, ground := Go.Ground.phase }, { on := 9, ground := Go.Ground.phase }, { on := 10, ground := Go.Ground.phase }, { on := 11, ground := Go.Ground.phase }, { on := 12, ground := Go.Ground.phase }, { on := 13, ground := Go.Ground.phase }, { on := 14, ground := Go.Ground.phase }], guard := none }
abbrev o19_16 : Oper := { dst := some 120, op := Go.Op.fieldAddr 47 (Go.Operand.tmp 119) 3, type := 0, pos := "ref.go:125", after := #[{ on := 15, ground := Go.Ground.data }, { on := 0, ground := Go.Ground.phase }, { on := 1, ground := Go.Ground.phase }, { on := 2, ground := Go.Ground.phase }, { on := 3, ground := Go.Ground.phase }, { on := 4, ground := Go.Ground.phase }, { on := 5, ground := Go.Ground.phase }, { on := 6, ground := Go.Ground.phase }, { on := 7, ground := Go.Ground.phase }, { on := 8, ground := Go.Ground.phase }, { on := 9, ground := Go.Ground.phase }, { on := 10, ground := Go.Ground.phase }, { on := 11, ground := Go.Ground.phase }, { on := 12, ground := Go.Ground.phase }, { on := 13, ground := Go.Ground.phase }, { on := 14, ground := Go.Ground.phase }], guard := none }
abbrev o19_17 : Oper := { dst := none, op := Go.Op.store 45 (Go.Operand.tmp 120) (Go.Operand.tmp 118), type := 0, pos := "ref.go:125", after := #[{ on := 16, ground := Go.Ground.data }, { on := 14, ground := Go.Ground.data }, { on := 14, ground := Go.Ground.chain }, { on := 0, ground := Go.Ground.phase }, { on := 1, ground := Go.Ground.phase }, { on := 2, ground := Go.Ground.phase }, { on := 3, ground := Go.Ground.phase }, { on := 4, ground := Go.Ground.phase }, { on := 5, ground := Go.Ground.phase }, { on := 6, ground := Go.Ground.phase }, { on := 7, ground := Go.Ground.phase }, { on := 8, ground := Go.Ground.phase }, { on := 9, ground := Go.Ground.phase }, { on := 10, ground := Go.Ground.phase }, { on := 11, ground := Go.Ground.phase }, { on := 12, ground := Go.Ground.phase }, { on := 13, ground := Go.Ground.phase }, { on := 14, ground := Go.Ground.phase }], guard := none }
abbrev rp6 : Obj := .cells #[.int .i64 6, .int .i64 0, .int .i64 0] 34
abbrev rpB (R : Rp) : Obj := .cells #[.int .i64 R.err, .int .i64 R.gen, .int .i64 R.due] 34
/-- The blocks that Apply holds while it remembers: the operation's and the answer's. -/
structure LX (W : World) (bx b6 : Nat) (o : OpN) (R : Rp) : Prop where
  xb : W.heap[bx]? = some (opO o)
  tb : W.heap[b6]? = some (rpB R)
section
variable {W : World} {bx b6 : Nat} {o : OpN} {R : Rp}
theorem LX.below (h : LX W bx b6 o R) {W' : World} (k : Below W.heap.size W W') : LX W' bx b6 o R := ⟨(k.block _ (lt_in h.xb)).trans h.xb, (k.block _ (lt_in h.tb)).trans h.tb⟩
theorem LX.set (h : LX W bx b6 o R) (j : Nat) (v : Value) (h1 : bx ≠ r) (h2 : b6 ≠ r) : LX (W.setCell ⟨r, j, none⟩ v) bx b6 o R := ⟨(Below.heap_setCell W ⟨r, j, none⟩ v bx h1).trans h.xb, (Below.heap_setCell W ⟨r, j, none⟩ v b6 h2).trans h.tb⟩
theorem LX.cells (h : LX W bx b6 o R) : LX W bx b6 o R ∧ W.cell? ⟨bx, 1, none⟩ = some (.int .i64 o.client) ∧ W.cell? ⟨bx, 2, none⟩ = some (.int .i64 o.req) ∧ W.cell? ⟨b6, 0, none⟩ = some (.int .i64 R.err) ∧ W.cell? ⟨b6, 1, none⟩ = some (.int .i64 R.gen) ∧ W.cell? ⟨b6, 2, none⟩ = some (.int .i64 R.due) :=
  ⟨h, cell_in h.xb 1, cell_in h.xb 2, cell_in h.tb 0, cell_in h.tb 1, cell_in h.tb 2⟩
end
set_option maxHeartbeats 8000000 in
theorem rask_old_cn (h : Rf base w r s p cap q cq) (ok : Ok s) (o : OpN) (hkind : o.kind = 2) (hp : plK o.client s.K < s.K.length) (hlt : s.K[plK o.client s.K].req < o.req) (ht : ¬ plT o.id s.T < s.T.length) : Calls Tryz.prog 16 #[.pointer (some ⟨r, 0, none⟩), opV o] w fun e w' => e = .returned (rpV (askN s o).2) ∧ Rg base w r p q w' (askN s o).1 := by
  have k1 : Below w.heap.size w ((w.alloc (opO o)).alloc rp0) := ((Below.refl w.heap.size w).alloc (Nat.le_refl _) (opO o)).alloc (by simp) rp0
  have hbx : ((w.alloc (opO o)).alloc rp0).heap[w.heap.size]? = some (opO o) := (alloc_old (by simp)).trans (Go.heap_alloc_new w (opO o))
  have hbr : ((w.alloc (opO o)).alloc rp0).heap[w.heap.size + 1]? = some rp0 := by
    have := Go.heap_alloc_new (w.alloc (opO o)) rp0
    simpa using this
  have hlt1 : Hid (w.heap.size + 1 < ((w.alloc (opO o)).alloc rp0).heap.size) := by show _ < _; simp
  have hR1 := Lib.hid (h.below k1)
  have ck := Lib.hid (rknown_any hR1.out o.client)
  have hlk := h.lk
  have hlT := h.lt
  have hrl := h.rlt
  have hlki : (s.K.length : Int) ≤ 1000 := by omega
  have hlTi : (s.T.length : Int) ≤ 1000 := by omega
  have hC : changeN s o = (s, ⟨6, 0, 0⟩) := by
    unfold changeN cancelN
    rw [if_neg (by rw [hkind]; decide), plT_find, List.getElem?_eq_none (by omega)]
  have hA : Hid (askN s o = ({ (changeN s o).1 with K := s.K.set (plK o.client s.K) ⟨o.client, o.req, (changeN s o).2⟩ }, (changeN s o).2)) := by
    show _ = _
    unfold askN
    rw [plK_known, List.getElem?_eq_getElem hp]
    simp only []
    rw [if_neg (by omega), if_neg (by omega), renew_set ok.apart hp (plK_is hp)]
  have hat : atN (plK o.client s.K) s.K.length = ((plK o.client s.K : Nat) : Int) := by unfold atN; rw [if_pos hp]
  rw [hat] at ck
  have hKat := Lib.hid (fun W (hR : Rf base W r s p cap q cq) => hR.atK (plK o.client s.K) hp)
  have hp2 : (plK o.client s.K : Int) < (s.K.length : Int) := by omega
  obtain ⟨gK, hqe⟩ : ∃ g, q = some ⟨g, 0, none⟩ := by obtain ⟨g, e, _⟩ := h.atK _ hp; exact ⟨g, e⟩
  subst hqe
  generalize s.K[plK o.client s.K] = kk at *
  generalize plK o.client s.K = k at *
  have hd0 : decide ((0 : Int) ≤ (k : Int)) = true := by simp
  have hd0' : decide ((k : Int) < 0) = false := by simp
  have hd1 : decide (k < s.K.length) = true := by simpa using hp
  have hk0 : (0 : Int) ≤ (k : Int) := by omega
  obtain ⟨kc, kreq, kerr, kgen, kdue⟩ := kk
  simp only [] at hlt hKat
  have hd3 : decide (o.req < kreq) = false := by simp; omega
  have hd4 : (kreq == o.req) = false := by simp; omega
  clear hat
  replace hlt := Lib.hid hlt
  have cF := Lib.hid (fun W (hR : Rf base W r s p cap (some ⟨gK, 0, none⟩) cq) => rfind_any hR o.id)
  have hatt : atN (plT o.id s.T) s.T.length = -1 := by unfold atN; rw [if_neg ht]
  rw [hatt] at cF
  have ht0 : decide ((0 : Int) ≤ (-1 : Int)) = false := by simp
  clear hatt ht
  rw [hC] at hA
  generalize askN s o = AS at *
  obtain rfl := hA.out
  obtain ⟨okind, oclient, oreq, oid, ogen, oocc, odue, ostamp, oepoch, ocron⟩ := o
  simp only [opV, opC, opO, rp0] at *
  subst hkind
  clear k1 hA
  replace k1 : Hid (Below w.heap.size w ((w.alloc (.cells #[.int .i64 2, .int .i64 oclient, .int .i64 oreq, .int .i64 oid, .int .i64 ogen, .int .i64 oocc, .int .i64 odue, .int .i64 ostamp, .int .i64 oepoch, .string ocron] 30)).alloc (.cells #[.int .i64 0, .int .i64 0, .int .i64 0] 34))) := ((Below.refl w.heap.size w).alloc (Nat.le_refl _) _).alloc (by simp) _
  generalize hw1 : (w.alloc (.cells #[.int .i64 2, .int .i64 oclient, .int .i64 oreq, .int .i64 oid, .int .i64 ogen, .int .i64 oocc, .int .i64 odue, .int .i64 ostamp, .int .i64 oepoch, .string ocron] 30)).alloc (.cells #[.int .i64 0, .int .i64 0, .int .i64 0] 34) = w1 at *
  obtain ⟨z0, z1, z2, z3, z4, z5, z6, z7, z8, z9⟩ := op_cells (o := ⟨2, oclient, oreq, oid, ogen, oocc, odue, ostamp, oepoch, ocron⟩) hbx
  simp only [] at z0 z1 z2 z3 z4 z5 z6 z7 z8 z9
  have c3 := hR1.out.c3
  obtain ⟨_, e_, hgl, y0, y1, y2, y3, y4⟩ := hKat.out _ hR1.out
  obtain rfl : gK = _ := by injection e_ with e_; injection e_
  clear e_
  have hw1' := Lib.hid hw1
  go_enter Tryz.func16, Tryz.ntmps16
  go_upto_region 4 with fail
  try rw [hw1]
  clear hw1
  go_wp2_with fail
  refine ck.out.mono ?_
  rintro e w4 ⟨rfl, rfl⟩
  clear ck
  go_wp2_with fail
  go_quiet (fail)
  have kA : Below w1.heap.size w1 (w1.drewN nq) := below_dN (Below.refl _ _) nq
  have hRA := Lib.hid (hR1.out.below kA)
  replace hbx := (kA.block w.heap.size (by have := hlt1.out; omega)).trans hbx
  replace hbr := (kA.block (w.heap.size + 1) hlt1.out).trans hbr
  replace k1 : Hid (Below w.heap.size w (w1.drewN nq)) := k1.out.trans (kA.mono k1.out.size)
  replace hlt1 : Hid (w.heap.size + 1 < (w1.drewN nq).heap.size) := Nat.lt_of_lt_of_le hlt1.out kA.size
  clear hR1 kA z0 z1 z2 z3 z4 z5 z6 z7 z8 z9 c3 hw1' y0 y1 y2 y3 y4 hgl
  generalize w1.drewN nq = w2 at *
  obtain ⟨z0, z1, z2, z3, z4, z5, z6, z7, z8, z9⟩ := op_cells (o := ⟨2, oclient, oreq, oid, ogen, oocc, odue, ostamp, oepoch, ocron⟩) hbx
  simp only [] at z0 z1 z2 z3 z4 z5 z6 z7 z8 z9
  have c3 := hRA.out.c3
  obtain ⟨_, e_, hgl, y0, y1, y2, y3, y4⟩ := hKat.out _ hRA.out
  obtain rfl : gK = _ := by injection e_ with e_; injection e_
  clear e_
  go_wp2_with fail
  go_quiet (fail)
  have kA : Below w2.heap.size w2 (w2.drewN nq) := below_dN (Below.refl _ _) nq
  have hRB := Lib.hid (hRA.out.below kA)
  replace hbx := (kA.block w.heap.size (by have := hlt1.out; omega)).trans hbx
  replace hbr := (kA.block (w.heap.size + 1) hlt1.out).trans hbr
  replace k1 : Hid (Below w.heap.size w (w2.drewN nq)) := k1.out.trans (kA.mono k1.out.size)
  replace hlt1 : Hid (w.heap.size + 1 < (w2.drewN nq).heap.size) := Nat.lt_of_lt_of_le hlt1.out kA.size
  clear hRA kA z0 z1 z2 z3 z4 z5 z6 z7 z8 z9 c3 y0 y1 y2 y3 y4 hgl
  generalize w2.drewN nq = w3 at *
  obtain ⟨z0, z1, z2, z3, z4, z5, z6, z7, z8, z9⟩ := op_cells (o := ⟨2, oclient, oreq, oid, ogen, oocc, odue, ostamp, oepoch, ocron⟩) hbx
  simp only [] at z0 z1 z2 z3 z4 z5 z6 z7 z8 z9
  have c3 := hRB.out.c3
  go_upto_region 12 with fail
  have kA : Below w3.heap.size w3 (w3.alloc rp6) := (Below.refl _ _).alloc (Nat.le_refl _) _
  have hRC := Lib.hid (hRB.out.below kA)
  replace hbx := (kA.block w.heap.size (by have := hlt1.out; omega)).trans hbx
  replace hbr := (kA.block (w.heap.size + 1) hlt1.out).trans hbr
  replace k1 : Hid (Below w.heap.size w (w3.alloc rp6)) := k1.out.trans (kA.mono k1.out.size)
  have hb6 : (w3.alloc rp6).heap[w3.heap.size]? = some (rpB ⟨6, 0, 0⟩) := Go.heap_alloc_new w3 _
  have hl6 : Hid (w.heap.size + 1 < w3.heap.size ∧ w3.heap.size < (w3.alloc rp6).heap.size) := ⟨hlt1.out, by simp⟩
  clear hRB kA z0 z1 z2 z3 z4 z5 z6 z7 z8 z9 c3
  replace hlt1 := True.intro
  simp only [rp6, rpB] at *
  generalize w3.alloc (.cells #[.int .i64 6, .int .i64 0, .int .i64 0] 34) = w4 at *
  generalize w3.heap.size = b6 at *
  obtain ⟨z0, z1, z2, z3, z4, z5, z6, z7, z8, z9⟩ := op_cells (o := ⟨2, oclient, oreq, oid, ogen, oocc, odue, ostamp, oepoch, ocron⟩) hbx
  simp only [] at z0 z1 z2 z3 z4 z5 z6 z7 z8 z9
  go_wp2_with fail
  refine (cF.out _ hRC.out).mono ?_
  rintro e w5 ⟨rfl, rfl⟩
  clear cF
  have RZ := hRC
  have frp : Hid (∀ g, g ∈ rowOf p → g ∈ rowOf p ∨ w.heap.size + 1 < g) := fun g hg => .inl hg
  have frq : Hid (∀ g, g ∈ rowOf (some ⟨gK, 0, none⟩ : Option Addr) → g ∈ rowOf (some ⟨gK, 0, none⟩ : Option Addr) ∨ w.heap.size + 1 < g) := fun g hg => .inl hg
  have hbxz := hbx
  have hbrz := hbr
  have hb6z := hb6
  have kz : Hid (Kl [r] w w4) := Kl.ofBelow k1.out
  have hszz : Hid (b6 < w4.heap.size) := hl6.out.2
  clear hRC hbx hbr hb6
  go_upto_region 18 with fail
  clear z0 z1 z2 z3 z4 z5 z6 z7 z8 z9
  generalize w4 = wz at *
  have hkl2 : s.K.length ≤ 1000 := RZ.out.lk
  have hrz := RZ.out.rlt
  have bA : Below wz.heap.size wz (wz.alloc (.cells #[] 50)) := (Below.refl _ _).alloc (Nat.le_refl _) _
  have oA : (wz.alloc (.cells #[] 50)).ownsRow wz.heap.size 50 5 (.slice (some ⟨wz.heap.size, 0, none⟩) 0 0) 0 [] := World.ownsRow_made wz #[] 0 (Nat.le_refl _) (by unfold maxLen; omega) rfl
  obtain ⟨v3, w31, hr3, g3, c31, hv3, o3, hg3, b3⟩ := kcopy (b2 := base) (K := s.K) oA (RZ.out.kow.below bA) hkl2 bA.size
  subst hv3
  have bz3 : Hid (Below wz.heap.size wz w31) := bA.trans (b3.mono bA.size)
  have RA := RZ.out.below bA
  have R3 := RZ.out.below bz3.out
  have d3 : (wz.alloc (.cells #[] 50)).cell? ⟨r, 3, none⟩ = some (.slice (some ⟨gK, 0, none⟩ : Option Addr) s.K.length cq) := RA.c3
  have d3' : w31.cell? ⟨r, 3, none⟩ = some (.slice (some ⟨gK, 0, none⟩ : Option Addr) s.K.length cq) := R3.c3
  have f3' := R3.fz 3
  have hgz : Hid (wz.heap.size ≤ g3) := (World.ownsRow.lt o3 g3 rfl).1
  have R9 : Hid (Rf base (w31.setCell ⟨r, 3, none⟩ (.slice (some ⟨g3, 0, none⟩) s.K.length c31)) r s p cap (some ⟨g3, 0, none⟩) c31) :=
    RZ.out.setK (bz3.out.block r hrz) (fun g hg => bz3.out.block g (RZ.out.tow.lt hg).2) (row_lowK o3 (by have := RZ.out.hb; omega)) rfl hkl2
  have k9 : Hid (Kl [r] w (w31.setCell ⟨r, 3, none⟩ (.slice (some ⟨g3, 0, none⟩) s.K.length c31))) := (kz.out.trans (Kl.ofBelow bz3.out)).setCell (by simp) _ _
  have hne0 : w.heap.size ≠ r := by omega
  have hne1 : w.heap.size + 1 ≠ r := by omega
  have hne2 : b6 ≠ r := by have := hl6.out; omega
  have hbx9 := (Below.heap_setCell w31 ⟨r, 3, none⟩ (.slice (some ⟨g3, 0, none⟩) s.K.length c31) _ hne0).trans ((bz3.out.block w.heap.size (by have := hl6.out; have := hszz.out; omega)).trans hbxz)
  have hbr9 := (Below.heap_setCell w31 ⟨r, 3, none⟩ (.slice (some ⟨g3, 0, none⟩) s.K.length c31) _ hne1).trans ((bz3.out.block (w.heap.size + 1) (by have := hl6.out; have := hszz.out; omega)).trans hbrz)
  have hb69 := (Below.heap_setCell w31 ⟨r, 3, none⟩ (.slice (some ⟨g3, 0, none⟩) s.K.length c31) _ hne2).trans ((bz3.out.block b6 hszz.out).trans hb6z)
  have hlt9 : Hid (b6 < g3) := by have := hgz.out; have := hszz.out; unfold Hid; omega
  replace hr3 := Lib.hid hr3
  clear RA R3 RZ bA oA o3 b3 hg3 hbxz hbrz hb6z kz
  go_wp2_with (at_builtin; refine wpList_append_ati rfl _ _ 45 45 rfl _ _ rfl rfl hr3.out ?_)
  clear hr3 d3 d3' f3'
  generalize w31.setCell ⟨r, 3, none⟩ (.slice (some ⟨g3, 0, none⟩) s.K.length c31) = w9 at *
  have d3 : w9.cell? ⟨r, 3, none⟩ = some (.slice (some ⟨g3, 0, none⟩) s.K.length c31) := R9.out.c3
  obtain ⟨z0, z1, z2, z3, z4, z5, z6, z7, z8, z9⟩ := op_cells (o := (⟨2, oclient, oreq, oid, ogen, oocc, odue, ostamp, oepoch, ocron⟩ : OpN)) hbx9
  obtain ⟨x0', x1', x2', x3', x4', x5'⟩ := rp_cells hb69
  simp only [] at z0 z1 z2 z3 z4 z5 z6 z7 z8 z9
  go_still_tail 12, (by kernel_rfl)
  change wpList _ _ _ _ _ w9.drew
  have hdw : Below w9.heap.size w9 w9.drew := below_dN (Below.refl _ _) 1
  have R10 := Lib.hid (R9.out.below hdw)
  have k10 : Hid (Kl [r] w w9.drew) := k9.out.trans (Kl.ofBelow hdw)
  have hbr10 := (hdw.block (w.heap.size + 1) (lt_in hbr9)).trans hbr9
  have hb610 := (hdw.block b6 (lt_in hb69)).trans hb69
  clear d3 z0 z1 z2 z3 z4 z5 z6 z7 z8 z9 x0' x1' x2' x3' x4' x5' hdw R9 k9 hbx9 hbr9 hb69
  generalize w9.drew = w10 at *
  obtain ⟨_, e_, hgl3, y0, y1, y2, y3, y4⟩ := R10.out.atK k hp
  obtain rfl : g3 = _ := by injection e_ with e_; injection e_
  clear e_
  have fz := fun j => World.ownsRow.frozenAt R10.out.kow j
  have v0 := fz (k * 5)
  have v1 := fz (k * 5 + 1)
  have v2 := fz (k * 5 + 2)
  have v3 := fz (k * 5 + 3)
  have v4 := fz (k * 5 + 4)
  have R11 := Lib.hid (R10.out.putK k hp (⟨oclient, oreq, ⟨6, 0, 0⟩⟩ : Kn))
  have kg : Kl [g3] w10 (((((w10.setCell ⟨g3, k * 5, none⟩ (.int .i64 oclient)).setCell ⟨g3, k * 5 + 1, none⟩ (.int .i64 oreq)).setCell ⟨g3, k * 5 + 2, none⟩ (.int .i64 6)).setCell ⟨g3, k * 5 + 3, none⟩ (.int .i64 0)).setCell ⟨g3, k * 5 + 4, none⟩ (.int .i64 0)) := (((((Kl.refl _ _).setCell (by simp) _ _).setCell (by simp) _ _).setCell (by simp) _ _).setCell (by simp) _ _).setCell (by simp) _ _
  have k11 : Hid (Kl [r] w (((((w10.setCell ⟨g3, k * 5, none⟩ (.int .i64 oclient)).setCell ⟨g3, k * 5 + 1, none⟩ (.int .i64 oreq)).setCell ⟨g3, k * 5 + 2, none⟩ (.int .i64 6)).setCell ⟨g3, k * 5 + 3, none⟩ (.int .i64 0)).setCell ⟨g3, k * 5 + 4, none⟩ (.int .i64 0))) := ((k10.out.mono (M := [r, g3]) (fun k hk => by simp only [List.mem_singleton] at hk; subst hk; simp)).trans (kg.mono (fun k hk => by simp only [List.mem_singleton] at hk; subst hk; simp))).mono (fun k hk => by
    simp only [List.mem_cons, List.not_mem_nil, or_false] at hk
    rcases hk with rfl | rfl
    · simp
    · exact .inr (by have := hl6.out; have := hlt9.out; omega))
  have hbr11 := (kg.block (w.heap.size + 1) (lt_in hbr10) (by have := hl6.out; have := hlt9.out; simp; omega)).trans hbr10
  have hb611 := (kg.block b6 (lt_in hb610) (by have := hlt9.out; simp; omega)).trans hb610
  replace fz := True.intro
  go_upto_region 22 with fail
  clear y0 y1 y2 y3 y4 v0 v1 v2 v3 v4 kg hbr10 hb610 R10 k10
  simp only [] at R11
  generalize ((((w10.setCell ⟨g3, k * 5, none⟩ (.int .i64 oclient)).setCell ⟨g3, k * 5 + 1, none⟩ (.int .i64 oreq)).setCell ⟨g3, k * 5 + 2, none⟩ (.int .i64 6)).setCell ⟨g3, k * 5 + 3, none⟩ (.int .i64 0)).setCell ⟨g3, k * 5 + 4, none⟩ (.int .i64 0) = w11 at *
  obtain ⟨y0', y1', y2', y3', y4', y5'⟩ := rp_cells hbr11
  obtain ⟨x0', x1', x2', x3', x4', x5'⟩ := rp_cells hb611
  have hfin := Lib.hid (rg_end h k11.out R11.out frp.out (fun g hg => .inr (by
    have e : g = g3 := by simpa [rowOf, Value.ownBlock] using hg
    have := hl6.out; have := hlt9.out; omega)) (.int .i64 6) (.int .i64 0) (.int .i64 0))
  go_wp2_with fail
  refine bodyPost_ret (v := rpV ⟨6, 0, 0⟩) ?_ rfl ?_
  · rw [results_cellA rfl]
    go_simp
  · exact ⟨rfl, hfin.out⟩
set_option maxHeartbeats 8000000 in
theorem rask_old_cs (h : Rf base w r s p cap q cq) (ok : Ok s) (o : OpN) (hkind : o.kind = 2) (hp : plK o.client s.K < s.K.length) (hlt : s.K[plK o.client s.K].req < o.req) (ht : plT o.id s.T < s.T.length) : Calls Tryz.prog 16 #[.pointer (some ⟨r, 0, none⟩), opV o] w fun e w' => e = .returned (rpV (askN s o).2) ∧ Rg base w r p q w' (askN s o).1 := by
  have k1 : Below w.heap.size w ((w.alloc (opO o)).alloc rp0) := ((Below.refl w.heap.size w).alloc (Nat.le_refl _) (opO o)).alloc (by simp) rp0
  have hbx : ((w.alloc (opO o)).alloc rp0).heap[w.heap.size]? = some (opO o) := (alloc_old (by simp)).trans (Go.heap_alloc_new w (opO o))
  have hbr : ((w.alloc (opO o)).alloc rp0).heap[w.heap.size + 1]? = some rp0 := by
    have := Go.heap_alloc_new (w.alloc (opO o)) rp0
    simpa using this
  have hlt1 : Hid (w.heap.size + 1 < ((w.alloc (opO o)).alloc rp0).heap.size) := by show _ < _; simp
  have hR1 := Lib.hid (h.below k1)
  have ck := Lib.hid (rknown_any hR1.out o.client)
  have hlk := h.lk
  have hlT := h.lt
  have hrl := h.rlt
  have hlki : (s.K.length : Int) ≤ 1000 := by omega
  have hlTi : (s.T.length : Int) ≤ 1000 := by omega
  have hC : changeN s o = ({ s with T := away o.id s.T }, ⟨0, s.T[plT o.id s.T].gen, s.T[plT o.id s.T].due⟩) := by
    unfold changeN cancelN
    rw [if_neg (by rw [hkind]; decide), plT_find, List.getElem?_eq_getElem ht]
  have hA : Hid (askN s o = ({ (changeN s o).1 with K := s.K.set (plK o.client s.K) ⟨o.client, o.req, (changeN s o).2⟩ }, (changeN s o).2)) := by
    show _ = _
    unfold askN
    rw [plK_known, List.getElem?_eq_getElem hp]
    simp only []
    rw [if_neg (by omega), if_neg (by omega), renew_set ok.apart hp (plK_is hp)]
  have hat : atN (plK o.client s.K) s.K.length = ((plK o.client s.K : Nat) : Int) := by unfold atN; rw [if_pos hp]
  rw [hat] at ck
  have hKat := Lib.hid (fun W (hR : Rf base W r s p cap q cq) => hR.atK (plK o.client s.K) hp)
  have hp2 : (plK o.client s.K : Int) < (s.K.length : Int) := by omega
  obtain ⟨gK, hqe⟩ : ∃ g, q = some ⟨g, 0, none⟩ := by obtain ⟨g, e, _⟩ := h.atK _ hp; exact ⟨g, e⟩
  subst hqe
  generalize s.K[plK o.client s.K] = kk at *
  generalize plK o.client s.K = k at *
  have hd0 : decide ((0 : Int) ≤ (k : Int)) = true := by simp
  have hd0' : decide ((k : Int) < 0) = false := by simp
  have hd1 : decide (k < s.K.length) = true := by simpa using hp
  have hk0 : (0 : Int) ≤ (k : Int) := by omega
  obtain ⟨kc, kreq, kerr, kgen, kdue⟩ := kk
  simp only [] at hlt hKat
  have hd3 : decide (o.req < kreq) = false := by simp; omega
  have hd4 : (kreq == o.req) = false := by simp; omega
  clear hat
  replace hlt := Lib.hid hlt
  have cF := Lib.hid (fun W (hR : Rf base W r s p cap (some ⟨gK, 0, none⟩) cq) => rfind_any hR o.id)
  have hatt : atN (plT o.id s.T) s.T.length = ((plT o.id s.T : Nat) : Int) := by unfold atN; rw [if_pos ht]
  rw [hatt] at cF
  have hTat := Lib.hid (fun W (hR : Rf base W r s p cap (some ⟨gK, 0, none⟩) cq) => hR.at (plT o.id s.T) ht)
  have haw : s.T.take (plT o.id s.T) ++ s.T.drop (plT o.id s.T + 1) = away o.id s.T := by
    have := away_at ok.up ht
    rw [plT_is ht] at this
    exact this
  have cR := Lib.hid (fun W (hR : Rf base W r s p cap (some ⟨gK, 0, none⟩) cq) => raway_any hR (plT o.id s.T) ht)
  rw [haw] at cR
  obtain ⟨gT, hpe⟩ : ∃ g, p = some ⟨g, 0, none⟩ := by obtain ⟨g, e, _⟩ := h.at _ ht; exact ⟨g, e⟩
  subst hpe
  have ht2 : (plT o.id s.T : Int) < (s.T.length : Int) := by omega
  generalize s.T[plT o.id s.T] = tt at *
  generalize plT o.id s.T = kt at *
  have ht0 : decide ((0 : Int) ≤ (kt : Int)) = true := by simp
  have ht0' : (0 : Int) ≤ (kt : Int) := by omega
  have ht1 : decide (kt < s.T.length) = true := by simpa using ht
  obtain ⟨tid, tc, tg, td, tcr⟩ := tt
  simp only [] at hC hTat
  clear hatt haw
  rw [hC] at hA
  generalize askN s o = AS at *
  obtain rfl := hA.out
  obtain ⟨okind, oclient, oreq, oid, ogen, oocc, odue, ostamp, oepoch, ocron⟩ := o
  simp only [opV, opC, opO, rp0] at *
  subst hkind
  clear k1 hA
  replace k1 : Hid (Below w.heap.size w ((w.alloc (.cells #[.int .i64 2, .int .i64 oclient, .int .i64 oreq, .int .i64 oid, .int .i64 ogen, .int .i64 oocc, .int .i64 odue, .int .i64 ostamp, .int .i64 oepoch, .string ocron] 30)).alloc (.cells #[.int .i64 0, .int .i64 0, .int .i64 0] 34))) := ((Below.refl w.heap.size w).alloc (Nat.le_refl _) _).alloc (by simp) _
  generalize hw1 : (w.alloc (.cells #[.int .i64 2, .int .i64 oclient, .int .i64 oreq, .int .i64 oid, .int .i64 ogen, .int .i64 oocc, .int .i64 odue, .int .i64 ostamp, .int .i64 oepoch, .string ocron] 30)).alloc (.cells #[.int .i64 0, .int .i64 0, .int .i64 0] 34) = w1 at *
  obtain ⟨z0, z1, z2, z3, z4, z5, z6, z7, z8, z9⟩ := op_cells (o := ⟨2, oclient, oreq, oid, ogen, oocc, odue, ostamp, oepoch, ocron⟩) hbx
  simp only [] at z0 z1 z2 z3 z4 z5 z6 z7 z8 z9
  have c3 := hR1.out.c3
  obtain ⟨_, e_, hgl, y0, y1, y2, y3, y4⟩ := hKat.out _ hR1.out
  obtain rfl : gK = _ := by injection e_ with e_; injection e_
  clear e_
  have hw1' := Lib.hid hw1
  go_enter Tryz.func16, Tryz.ntmps16
  go_upto_region 4 with fail
  try rw [hw1]
  clear hw1
  go_wp2_with fail
  refine ck.out.mono ?_
  rintro e w4 ⟨rfl, rfl⟩
  clear ck
  go_wp2_with fail
  go_quiet (fail)
  have kA : Below w1.heap.size w1 (w1.drewN nq) := below_dN (Below.refl _ _) nq
  have hRA := Lib.hid (hR1.out.below kA)
  replace hbx := (kA.block w.heap.size (by have := hlt1.out; omega)).trans hbx
  replace hbr := (kA.block (w.heap.size + 1) hlt1.out).trans hbr
  replace k1 : Hid (Below w.heap.size w (w1.drewN nq)) := k1.out.trans (kA.mono k1.out.size)
  replace hlt1 : Hid (w.heap.size + 1 < (w1.drewN nq).heap.size) := Nat.lt_of_lt_of_le hlt1.out kA.size
  clear hR1 kA z0 z1 z2 z3 z4 z5 z6 z7 z8 z9 c3 hw1' y0 y1 y2 y3 y4 hgl
  generalize w1.drewN nq = w2 at *
  obtain ⟨z0, z1, z2, z3, z4, z5, z6, z7, z8, z9⟩ := op_cells (o := ⟨2, oclient, oreq, oid, ogen, oocc, odue, ostamp, oepoch, ocron⟩) hbx
  simp only [] at z0 z1 z2 z3 z4 z5 z6 z7 z8 z9
  have c3 := hRA.out.c3
  obtain ⟨_, e_, hgl, y0, y1, y2, y3, y4⟩ := hKat.out _ hRA.out
  obtain rfl : gK = _ := by injection e_ with e_; injection e_
  clear e_
  go_wp2_with fail
  go_quiet (fail)
  have kA : Below w2.heap.size w2 (w2.drewN nq) := below_dN (Below.refl _ _) nq
  have hRB := Lib.hid (hRA.out.below kA)
  replace hbx := (kA.block w.heap.size (by have := hlt1.out; omega)).trans hbx
  replace hbr := (kA.block (w.heap.size + 1) hlt1.out).trans hbr
  replace k1 : Hid (Below w.heap.size w (w2.drewN nq)) := k1.out.trans (kA.mono k1.out.size)
  replace hlt1 : Hid (w.heap.size + 1 < (w2.drewN nq).heap.size) := Nat.lt_of_lt_of_le hlt1.out kA.size
  clear hRA kA z0 z1 z2 z3 z4 z5 z6 z7 z8 z9 c3 y0 y1 y2 y3 y4 hgl
  generalize w2.drewN nq = w3 at *
  obtain ⟨z0, z1, z2, z3, z4, z5, z6, z7, z8, z9⟩ := op_cells (o := ⟨2, oclient, oreq, oid, ogen, oocc, odue, ostamp, oepoch, ocron⟩) hbx
  simp only [] at z0 z1 z2 z3 z4 z5 z6 z7 z8 z9
  have c3 := hRB.out.c3
  go_upto_region 12 with fail
  have kA : Below w3.heap.size w3 (w3.alloc rp6) := (Below.refl _ _).alloc (Nat.le_refl _) _
  have hRC := Lib.hid (hRB.out.below kA)
  replace hbx := (kA.block w.heap.size (by have := hlt1.out; omega)).trans hbx
  replace hbr := (kA.block (w.heap.size + 1) hlt1.out).trans hbr
  replace k1 : Hid (Below w.heap.size w (w3.alloc rp6)) := k1.out.trans (kA.mono k1.out.size)
  have hb6 : (w3.alloc rp6).heap[w3.heap.size]? = some (rpB ⟨6, 0, 0⟩) := Go.heap_alloc_new w3 _
  have hl6 : Hid (w.heap.size + 1 < w3.heap.size ∧ w3.heap.size < (w3.alloc rp6).heap.size) := ⟨hlt1.out, by simp⟩
  clear hRB kA z0 z1 z2 z3 z4 z5 z6 z7 z8 z9 c3
  replace hlt1 := True.intro
  simp only [rp6, rpB] at *
  generalize w3.alloc (.cells #[.int .i64 6, .int .i64 0, .int .i64 0] 34) = w4 at *
  generalize w3.heap.size = b6 at *
  obtain ⟨z0, z1, z2, z3, z4, z5, z6, z7, z8, z9⟩ := op_cells (o := ⟨2, oclient, oreq, oid, ogen, oocc, odue, ostamp, oepoch, ocron⟩) hbx
  simp only [] at z0 z1 z2 z3 z4 z5 z6 z7 z8 z9
  go_wp2_with fail
  refine (cF.out _ hRC.out).mono ?_
  rintro e w5 ⟨rfl, rfl⟩
  clear cF
  have c2 := hRC.out.c2
  obtain ⟨_, e_, hgl2, x0, x1, x2, x3, x4⟩ := hTat.out _ hRC.out
  obtain rfl : gT = _ := by injection e_ with e_; injection e_
  obtain ⟨y0', y1', y2', y3', y4', y5'⟩ := rp_cells hb6
  clear e_
  go_upto_region 16 with fail
  go_still_tail 17, (by kernel_rfl)
  change wpList _ _ _ _ _ w4.drew
  have hdw : Below w4.heap.size w4 w4.drew := below_dN (Below.refl _ _) 1
  have hRD := Lib.hid (hRC.out.below hdw)
  have hb6d := (hdw.block b6 hl6.out.2).trans hb6
  replace k1 : Hid (Below w.heap.size w w4.drew) := k1.out.trans (hdw.mono k1.out.size)
  replace hbx := (hdw.block w.heap.size (by have := hl6.out; omega)).trans hbx
  replace hbr := (hdw.block (w.heap.size + 1) (by have := hl6.out; omega)).trans hbr
  replace hl6 : Hid (w.heap.size + 1 < b6 ∧ b6 < w4.drew.heap.size) := ⟨hl6.out.1, Nat.lt_of_lt_of_le hl6.out.2 hdw.size⟩
  clear hRC hdw hb6 c2 x0 x1 x2 x3 x4 hgl2 hTat y0' y1' y2' y3' y4' y5' z0 z1 z2 z3 z4 z5 z6 z7 z8 z9
  generalize w4.drew = w5 at *
  have hnb : Hid (b6 ≠ gT ∧ b6 ∉ rowOf (some ⟨gK, 0, none⟩ : Option Addr) ∧ b6 ≠ r) := by
    refine ⟨fun hg => ?_, fun hg => ?_, ?_⟩
    · have := (h.tow.lt (g := gT) (own_row (n := 0) (cap := 0).1 rfl)).2; have := hl6.out; omega
    · have := (h.kow.lt hg).2; have := hl6.out; omega
    · have := hl6.out; omega
  have kr : Kl [b6] w5 (((w5.setCell ⟨b6, 0, none⟩ (.int .i64 0)).setCell ⟨b6, 1, none⟩ (.int .i64 tg)).setCell ⟨b6, 2, none⟩ (.int .i64 td)) := (((Kl.refl _ _).setCell (by simp) _ _).setCell (by simp) _ _).setCell (by simp) _ _
  have RY : Hid (Rf base (((w5.setCell ⟨b6, 0, none⟩ (.int .i64 0)).setCell ⟨b6, 1, none⟩ (.int .i64 tg)).setCell ⟨b6, 2, none⟩ (.int .i64 td)) r s (some ⟨gT, 0, none⟩) cap (some ⟨gK, 0, none⟩ : Option Addr) cq) := hRD.out.same fun g hg => by
    have hne : g ≠ b6 := by
      rcases hg with rfl | hg | hg
      · exact fun e => hnb.out.2.2 e.symm
      · have := (h.tow.lt hg).2; have := hl6.out; omega
      · exact fun e => hnb.out.2.1 (e ▸ hg)
    exact ((Below.heap_setCell _ _ _ _ hne).trans (Below.heap_setCell _ _ _ _ hne)).trans (Below.heap_setCell _ _ _ _ hne)
  have hbxy := (kr.block w.heap.size (by have := hl6.out; omega) (by have := hl6.out; simp; omega)).trans hbx
  have hbry := (kr.block (w.heap.size + 1) (by have := hl6.out; omega) (by have := hl6.out; simp; omega)).trans hbr
  have hb6y : (((w5.setCell ⟨b6, 0, none⟩ (.int .i64 0)).setCell ⟨b6, 1, none⟩ (.int .i64 tg)).setCell ⟨b6, 2, none⟩ (.int .i64 td)).heap[b6]? = some (rpB ⟨0, tg, td⟩) := by
    rw [heap_setCell_same _ _ _ _ _ _ (heap_setCell_same _ _ _ _ _ _ (heap_setCell_same _ _ _ _ _ _ hb6d))]
    rfl
  have ky : Hid (Kl [r] w (((w5.setCell ⟨b6, 0, none⟩ (.int .i64 0)).setCell ⟨b6, 1, none⟩ (.int .i64 tg)).setCell ⟨b6, 2, none⟩ (.int .i64 td))) := ((Kl.ofBelow (L := [r, b6]) k1.out).trans (kr.mono (fun k hk => by simp only [List.mem_singleton] at hk; subst hk; simp))).mono (fun k hk => by
    simp only [List.mem_cons, List.not_mem_nil, or_false] at hk
    rcases hk with rfl | rfl
    · simp
    · exact .inr (by have := hl6.out; omega))
  have hszy : Hid (b6 < (((w5.setCell ⟨b6, 0, none⟩ (.int .i64 0)).setCell ⟨b6, 1, none⟩ (.int .i64 tg)).setCell ⟨b6, 2, none⟩ (.int .i64 td)).heap.size) := Nat.lt_of_lt_of_le hl6.out.2 kr.size
  obtain ⟨y0', y1', y2', y3', y4', y5'⟩ := rp_cells hb6d
  clear hRD kr hbx hbr hb6d
  go_upto_region 17 with fail
  clear y0' y1' y2' y3' y4' y5'
  generalize ((w5.setCell ⟨b6, 0, none⟩ (.int .i64 0)).setCell ⟨b6, 1, none⟩ (.int .i64 tg)).setCell ⟨b6, 2, none⟩ (.int .i64 td) = wy at *
  go_wp2_with fail
  refine (cR.out _ RY.out).mono ?_
  rintro e wz ⟨rfl, ⟨pz, capz, RZ, frz⟩, klz⟩
  have hbxz := (klz.block w.heap.size (by have := hszy.out; have := hl6.out; omega) (by simp; omega)).trans hbxy
  have hbrz := (klz.block (w.heap.size + 1) (by have := hszy.out; have := hl6.out; omega) (by simp; omega)).trans hbry
  have hb6z := (klz.block b6 hszy.out (by simp [hnb.out.2.2])).trans hb6y
  have kz : Hid (Kl [r] w wz) := ky.out.trans klz
  have hszz : Hid (b6 < wz.heap.size) := Nat.lt_of_lt_of_le hszy.out klz.size
  have frp : Hid (∀ g, g ∈ rowOf pz → g ∈ rowOf (some (⟨gT, 0, none⟩ : Addr)) ∨ w.heap.size + 1 < g) := fun g hg => .inr (by have := frz g hg; have := hszy.out; have := hl6.out; omega)
  have frq : Hid (∀ g, g ∈ rowOf (some ⟨gK, 0, none⟩ : Option Addr) → g ∈ rowOf (some ⟨gK, 0, none⟩ : Option Addr) ∨ w.heap.size + 1 < g) := fun g hg => .inl hg
  replace RZ := Lib.hid RZ
  clear cR RY frz klz hbxy hbry hb6y ky hszy
  go_upto_region 18 with fail
  have hkl2 : s.K.length ≤ 1000 := RZ.out.lk
  have hrz := RZ.out.rlt
  have bA : Below wz.heap.size wz (wz.alloc (.cells #[] 50)) := (Below.refl _ _).alloc (Nat.le_refl _) _
  have oA : (wz.alloc (.cells #[] 50)).ownsRow wz.heap.size 50 5 (.slice (some ⟨wz.heap.size, 0, none⟩) 0 0) 0 [] := World.ownsRow_made wz #[] 0 (Nat.le_refl _) (by unfold maxLen; omega) rfl
  obtain ⟨v3, w31, hr3, g3, c31, hv3, o3, hg3, b3⟩ := kcopy (b2 := base) (K := s.K) oA (RZ.out.kow.below bA) hkl2 bA.size
  subst hv3
  have bz3 : Hid (Below wz.heap.size wz w31) := bA.trans (b3.mono bA.size)
  have RA := RZ.out.below bA
  have R3 := RZ.out.below bz3.out
  have d3 : (wz.alloc (.cells #[] 50)).cell? ⟨r, 3, none⟩ = some (.slice (some ⟨gK, 0, none⟩ : Option Addr) s.K.length cq) := RA.c3
  have d3' : w31.cell? ⟨r, 3, none⟩ = some (.slice (some ⟨gK, 0, none⟩ : Option Addr) s.K.length cq) := R3.c3
  have f3' := R3.fz 3
  have hgz : Hid (wz.heap.size ≤ g3) := (World.ownsRow.lt o3 g3 rfl).1
  have R9 : Hid (Rf base (w31.setCell ⟨r, 3, none⟩ (.slice (some ⟨g3, 0, none⟩) s.K.length c31)) r ({ s with T := away oid s.T } : St) pz capz (some ⟨g3, 0, none⟩) c31) :=
    RZ.out.setK (bz3.out.block r hrz) (fun g hg => bz3.out.block g (RZ.out.tow.lt hg).2) (row_lowK o3 (by have := RZ.out.hb; omega)) rfl hkl2
  have k9 : Hid (Kl [r] w (w31.setCell ⟨r, 3, none⟩ (.slice (some ⟨g3, 0, none⟩) s.K.length c31))) := (kz.out.trans (Kl.ofBelow bz3.out)).setCell (by simp) _ _
  have hne0 : w.heap.size ≠ r := by omega
  have hne1 : w.heap.size + 1 ≠ r := by omega
  have hne2 : b6 ≠ r := by have := hl6.out; omega
  have hbx9 := (Below.heap_setCell w31 ⟨r, 3, none⟩ (.slice (some ⟨g3, 0, none⟩) s.K.length c31) _ hne0).trans ((bz3.out.block w.heap.size (by have := hl6.out; have := hszz.out; omega)).trans hbxz)
  have hbr9 := (Below.heap_setCell w31 ⟨r, 3, none⟩ (.slice (some ⟨g3, 0, none⟩) s.K.length c31) _ hne1).trans ((bz3.out.block (w.heap.size + 1) (by have := hl6.out; have := hszz.out; omega)).trans hbrz)
  have hb69 := (Below.heap_setCell w31 ⟨r, 3, none⟩ (.slice (some ⟨g3, 0, none⟩) s.K.length c31) _ hne2).trans ((bz3.out.block b6 hszz.out).trans hb6z)
  have hlt9 : Hid (b6 < g3) := by have := hgz.out; have := hszz.out; unfold Hid; omega
  replace hr3 := Lib.hid hr3
  clear RA R3 RZ bA oA o3 b3 hg3 hbxz hbrz hb6z kz
  go_wp2_with (at_builtin; refine wpList_append_ati rfl _ _ 45 45 rfl _ _ rfl rfl hr3.out ?_)
  clear hr3 d3 d3' f3'
  generalize w31.setCell ⟨r, 3, none⟩ (.slice (some ⟨g3, 0, none⟩) s.K.length c31) = w9 at *
  have d3 : w9.cell? ⟨r, 3, none⟩ = some (.slice (some ⟨g3, 0, none⟩) s.K.length c31) := R9.out.c3
  obtain ⟨z0, z1, z2, z3, z4, z5, z6, z7, z8, z9⟩ := op_cells (o := (⟨2, oclient, oreq, oid, ogen, oocc, odue, ostamp, oepoch, ocron⟩ : OpN)) hbx9
  obtain ⟨x0', x1', x2', x3', x4', x5'⟩ := rp_cells hb69
  simp only [] at z0 z1 z2 z3 z4 z5 z6 z7 z8 z9
  go_still_tail 12, (by kernel_rfl)
  change wpList _ _ _ _ _ w9.drew
  have hdw : Below w9.heap.size w9 w9.drew := below_dN (Below.refl _ _) 1
  have R10 := Lib.hid (R9.out.below hdw)
  have k10 : Hid (Kl [r] w w9.drew) := k9.out.trans (Kl.ofBelow hdw)
  have hbr10 := (hdw.block (w.heap.size + 1) (lt_in hbr9)).trans hbr9
  have hb610 := (hdw.block b6 (lt_in hb69)).trans hb69
  clear d3 z0 z1 z2 z3 z4 z5 z6 z7 z8 z9 x0' x1' x2' x3' x4' x5' hdw R9 k9 hbx9 hbr9 hb69
  generalize w9.drew = w10 at *
  obtain ⟨_, e_, hgl3, y0, y1, y2, y3, y4⟩ := R10.out.atK k hp
  obtain rfl : g3 = _ := by injection e_ with e_; injection e_
  clear e_
  have fz := fun j => World.ownsRow.frozenAt R10.out.kow j
  have v0 := fz (k * 5)
  have v1 := fz (k * 5 + 1)
  have v2 := fz (k * 5 + 2)
  have v3 := fz (k * 5 + 3)
  have v4 := fz (k * 5 + 4)
  have R11 := Lib.hid (R10.out.putK k hp (⟨oclient, oreq, ⟨0, tg, td⟩⟩ : Kn))
  have kg : Kl [g3] w10 (((((w10.setCell ⟨g3, k * 5, none⟩ (.int .i64 oclient)).setCell ⟨g3, k * 5 + 1, none⟩ (.int .i64 oreq)).setCell ⟨g3, k * 5 + 2, none⟩ (.int .i64 0)).setCell ⟨g3, k * 5 + 3, none⟩ (.int .i64 tg)).setCell ⟨g3, k * 5 + 4, none⟩ (.int .i64 td)) := (((((Kl.refl _ _).setCell (by simp) _ _).setCell (by simp) _ _).setCell (by simp) _ _).setCell (by simp) _ _).setCell (by simp) _ _
  have k11 : Hid (Kl [r] w (((((w10.setCell ⟨g3, k * 5, none⟩ (.int .i64 oclient)).setCell ⟨g3, k * 5 + 1, none⟩ (.int .i64 oreq)).setCell ⟨g3, k * 5 + 2, none⟩ (.int .i64 0)).setCell ⟨g3, k * 5 + 3, none⟩ (.int .i64 tg)).setCell ⟨g3, k * 5 + 4, none⟩ (.int .i64 td))) := ((k10.out.mono (M := [r, g3]) (fun k hk => by simp only [List.mem_singleton] at hk; subst hk; simp)).trans (kg.mono (fun k hk => by simp only [List.mem_singleton] at hk; subst hk; simp))).mono (fun k hk => by
    simp only [List.mem_cons, List.not_mem_nil, or_false] at hk
    rcases hk with rfl | rfl
    · simp
    · exact .inr (by have := hl6.out; have := hlt9.out; omega))
  have hbr11 := (kg.block (w.heap.size + 1) (lt_in hbr10) (by have := hl6.out; have := hlt9.out; simp; omega)).trans hbr10
  have hb611 := (kg.block b6 (lt_in hb610) (by have := hlt9.out; simp; omega)).trans hb610
  replace fz := True.intro
  go_upto_region 22 with fail
  clear y0 y1 y2 y3 y4 v0 v1 v2 v3 v4 kg hbr10 hb610 R10 k10
  simp only [] at R11
  generalize ((((w10.setCell ⟨g3, k * 5, none⟩ (.int .i64 oclient)).setCell ⟨g3, k * 5 + 1, none⟩ (.int .i64 oreq)).setCell ⟨g3, k * 5 + 2, none⟩ (.int .i64 0)).setCell ⟨g3, k * 5 + 3, none⟩ (.int .i64 tg)).setCell ⟨g3, k * 5 + 4, none⟩ (.int .i64 td) = w11 at *
  obtain ⟨y0', y1', y2', y3', y4', y5'⟩ := rp_cells hbr11
  obtain ⟨x0', x1', x2', x3', x4', x5'⟩ := rp_cells hb611
  have hfin := Lib.hid (rg_end h k11.out R11.out frp.out (fun g hg => .inr (by
    have e : g = g3 := by simpa [rowOf, Value.ownBlock] using hg
    have := hl6.out; have := hlt9.out; omega)) (.int .i64 0) (.int .i64 tg) (.int .i64 td))
  go_wp2_with fail
  refine bodyPost_ret (v := rpV ⟨0, tg, td⟩) ?_ rfl ?_
  · rw [results_cellA rfl]
    go_simp
  · exact ⟨rfl, hfin.out⟩
set_option maxHeartbeats 8000000 in
theorem rask_old_set (h : Rf base w r s p cap q cq) (ok : Ok s) (o : OpN) (hkind : o.kind = 1) (hp : plK o.client s.K < s.K.length) (hlt : s.K[plK o.client s.K].req < o.req) (cS : ∀ W, Rf base W r s p cap q cq → Calls Tryz.prog 34 #[.pointer (some ⟨r, 0, none⟩), opV o] W fun e w' => e = .returned (rpV (setN s o).2) ∧ Rg base W r p q w' (setN s o).1) : Calls Tryz.prog 16 #[.pointer (some ⟨r, 0, none⟩), opV o] w fun e w' => e = .returned (rpV (askN s o).2) ∧ Rg base w r p q w' (askN s o).1 := by
  have k1 : Below w.heap.size w ((w.alloc (opO o)).alloc rp0) := ((Below.refl w.heap.size w).alloc (Nat.le_refl _) (opO o)).alloc (by simp) rp0
  have hbx : ((w.alloc (opO o)).alloc rp0).heap[w.heap.size]? = some (opO o) := (alloc_old (by simp)).trans (Go.heap_alloc_new w (opO o))
  have hbr : ((w.alloc (opO o)).alloc rp0).heap[w.heap.size + 1]? = some rp0 := by
    have := Go.heap_alloc_new (w.alloc (opO o)) rp0
    simpa using this
  have hlt1 : Hid (w.heap.size + 1 < ((w.alloc (opO o)).alloc rp0).heap.size) := by show _ < _; simp
  have hR1 := Lib.hid (h.below k1)
  have ck := Lib.hid (rknown_any hR1.out o.client)
  have hlk := h.lk
  have hlT := h.lt
  have hrl := h.rlt
  have hlki : (s.K.length : Int) ≤ 1000 := by omega
  have hlTi : (s.T.length : Int) ≤ 1000 := by omega
  have hC : changeN s o = setN s o := by unfold changeN; rw [if_pos hkind]
  have hTK : Hid ((setN s o).1.K = s.K) := set_K s o
  have hTl : Hid ((setN s o).1.K.length = s.K.length) := by show _ = _; rw [set_K]
  rw [← hC] at cS hTK hTl
  have hA : Hid (askN s o = ({ (changeN s o).1 with K := s.K.set (plK o.client s.K) ⟨o.client, o.req, (changeN s o).2⟩ }, (changeN s o).2)) := by
    show _ = _
    unfold askN
    rw [plK_known, List.getElem?_eq_getElem hp]
    simp only []
    rw [if_neg (by omega), if_neg (by omega), renew_set ok.apart hp (plK_is hp)]
  have hat : atN (plK o.client s.K) s.K.length = ((plK o.client s.K : Nat) : Int) := by unfold atN; rw [if_pos hp]
  rw [hat] at ck
  have hKat := Lib.hid (fun W (hR : Rf base W r s p cap q cq) => hR.atK (plK o.client s.K) hp)
  have hp2 : (plK o.client s.K : Int) < (s.K.length : Int) := by omega
  obtain ⟨gK, hqe⟩ : ∃ g, q = some ⟨g, 0, none⟩ := by obtain ⟨g, e, _⟩ := h.atK _ hp; exact ⟨g, e⟩
  subst hqe
  generalize s.K[plK o.client s.K] = kk at *
  generalize plK o.client s.K = k at *
  have hd0 : decide ((0 : Int) ≤ (k : Int)) = true := by simp
  have hd0' : decide ((k : Int) < 0) = false := by simp
  have hd1 : decide (k < s.K.length) = true := by simpa using hp
  have hk0 : (0 : Int) ≤ (k : Int) := by omega
  obtain ⟨kc, kreq, kerr, kgen, kdue⟩ := kk
  simp only [] at hlt hKat
  have hd3 : decide (o.req < kreq) = false := by simp; omega
  have hd4 : (kreq == o.req) = false := by simp; omega
  clear hat
  replace hlt := Lib.hid hlt
  have cF := Lib.hid (fun W (hR : Rf base W r s p cap (some ⟨gK, 0, none⟩) cq) => rfind_any hR o.id)
  generalize atN (plT o.id s.T) s.T.length = zt at *
  replace cS := Lib.hid cS
  rw [hC] at hA hTK hTl cS
  clear hC
  generalize setN s o = PS at *
  obtain ⟨⟨ra, ga, Ta, Ka⟩, R1⟩ := PS
  simp only [] at hA hTK hTl cS
  obtain rfl : Ka = s.K := hTK.out
  clear hTK hTl
  generalize askN s o = AS at *
  obtain rfl := hA.out
  obtain ⟨okind, oclient, oreq, oid, ogen, oocc, odue, ostamp, oepoch, ocron⟩ := o
  simp only [opV, opC, opO, rp0] at *
  subst hkind
  clear k1 hA
  replace k1 : Hid (Below w.heap.size w ((w.alloc (.cells #[.int .i64 1, .int .i64 oclient, .int .i64 oreq, .int .i64 oid, .int .i64 ogen, .int .i64 oocc, .int .i64 odue, .int .i64 ostamp, .int .i64 oepoch, .string ocron] 30)).alloc (.cells #[.int .i64 0, .int .i64 0, .int .i64 0] 34))) := ((Below.refl w.heap.size w).alloc (Nat.le_refl _) _).alloc (by simp) _
  generalize hw1 : (w.alloc (.cells #[.int .i64 1, .int .i64 oclient, .int .i64 oreq, .int .i64 oid, .int .i64 ogen, .int .i64 oocc, .int .i64 odue, .int .i64 ostamp, .int .i64 oepoch, .string ocron] 30)).alloc (.cells #[.int .i64 0, .int .i64 0, .int .i64 0] 34) = w1 at *
  obtain ⟨z0, z1, z2, z3, z4, z5, z6, z7, z8, z9⟩ := op_cells (o := ⟨1, oclient, oreq, oid, ogen, oocc, odue, ostamp, oepoch, ocron⟩) hbx
  simp only [] at z0 z1 z2 z3 z4 z5 z6 z7 z8 z9
  have c3 := hR1.out.c3
  obtain ⟨_, e_, hgl, y0, y1, y2, y3, y4⟩ := hKat.out _ hR1.out
  obtain rfl : gK = _ := by injection e_ with e_; injection e_
  clear e_
  have hw1' := Lib.hid hw1
  go_enter Tryz.func16, Tryz.ntmps16
  go_upto_region 4 with fail
  try rw [hw1]
  clear hw1
  go_wp2_with fail
  refine ck.out.mono ?_
  rintro e w4 ⟨rfl, rfl⟩
  clear ck
  go_wp2_with fail
  go_quiet (fail)
  have kA : Below w1.heap.size w1 (w1.drewN nq) := below_dN (Below.refl _ _) nq
  have hRA := Lib.hid (hR1.out.below kA)
  replace hbx := (kA.block w.heap.size (by have := hlt1.out; omega)).trans hbx
  replace hbr := (kA.block (w.heap.size + 1) hlt1.out).trans hbr
  replace k1 : Hid (Below w.heap.size w (w1.drewN nq)) := k1.out.trans (kA.mono k1.out.size)
  replace hlt1 : Hid (w.heap.size + 1 < (w1.drewN nq).heap.size) := Nat.lt_of_lt_of_le hlt1.out kA.size
  clear hR1 kA z0 z1 z2 z3 z4 z5 z6 z7 z8 z9 c3 hw1' y0 y1 y2 y3 y4 hgl
  generalize w1.drewN nq = w2 at *
  obtain ⟨z0, z1, z2, z3, z4, z5, z6, z7, z8, z9⟩ := op_cells (o := ⟨1, oclient, oreq, oid, ogen, oocc, odue, ostamp, oepoch, ocron⟩) hbx
  simp only [] at z0 z1 z2 z3 z4 z5 z6 z7 z8 z9
  have c3 := hRA.out.c3
  obtain ⟨_, e_, hgl, y0, y1, y2, y3, y4⟩ := hKat.out _ hRA.out
  obtain rfl : gK = _ := by injection e_ with e_; injection e_
  clear e_
  go_wp2_with fail
  go_quiet (fail)
  have kA : Below w2.heap.size w2 (w2.drewN nq) := below_dN (Below.refl _ _) nq
  have hRB := Lib.hid (hRA.out.below kA)
  replace hbx := (kA.block w.heap.size (by have := hlt1.out; omega)).trans hbx
  replace hbr := (kA.block (w.heap.size + 1) hlt1.out).trans hbr
  replace k1 : Hid (Below w.heap.size w (w2.drewN nq)) := k1.out.trans (kA.mono k1.out.size)
  replace hlt1 : Hid (w.heap.size + 1 < (w2.drewN nq).heap.size) := Nat.lt_of_lt_of_le hlt1.out kA.size
  clear hRA kA z0 z1 z2 z3 z4 z5 z6 z7 z8 z9 c3 y0 y1 y2 y3 y4 hgl
  generalize w2.drewN nq = w3 at *
  obtain ⟨z0, z1, z2, z3, z4, z5, z6, z7, z8, z9⟩ := op_cells (o := ⟨1, oclient, oreq, oid, ogen, oocc, odue, ostamp, oepoch, ocron⟩) hbx
  simp only [] at z0 z1 z2 z3 z4 z5 z6 z7 z8 z9
  have c3 := hRB.out.c3
  go_upto_region 12 with fail
  have kA : Below w3.heap.size w3 (w3.alloc rp6) := (Below.refl _ _).alloc (Nat.le_refl _) _
  have hRC := Lib.hid (hRB.out.below kA)
  replace hbx := (kA.block w.heap.size (by have := hlt1.out; omega)).trans hbx
  replace hbr := (kA.block (w.heap.size + 1) hlt1.out).trans hbr
  replace k1 : Hid (Below w.heap.size w (w3.alloc rp6)) := k1.out.trans (kA.mono k1.out.size)
  have hb6 : (w3.alloc rp6).heap[w3.heap.size]? = some (rpB ⟨6, 0, 0⟩) := Go.heap_alloc_new w3 _
  have hl6 : Hid (w.heap.size + 1 < w3.heap.size ∧ w3.heap.size < (w3.alloc rp6).heap.size) := ⟨hlt1.out, by simp⟩
  clear hRB kA z0 z1 z2 z3 z4 z5 z6 z7 z8 z9 c3
  replace hlt1 := True.intro
  simp only [rp6, rpB] at *
  generalize w3.alloc (.cells #[.int .i64 6, .int .i64 0, .int .i64 0] 34) = w4 at *
  generalize w3.heap.size = b6 at *
  obtain ⟨z0, z1, z2, z3, z4, z5, z6, z7, z8, z9⟩ := op_cells (o := ⟨1, oclient, oreq, oid, ogen, oocc, odue, ostamp, oepoch, ocron⟩) hbx
  simp only [] at z0 z1 z2 z3 z4 z5 z6 z7 z8 z9
  go_wp2_with fail
  refine (cF.out _ hRC.out).mono ?_
  rintro e w5 ⟨rfl, rfl⟩
  clear cF
  go_wp2_with fail
  refine (cS.out _ hRC.out).mono ?_
  rintro e w5 ⟨rfl, ⟨pz, capz, qz, cqz, R5, frp5, frq5⟩, kl5⟩
  have hnb : Hid (b6 ∉ rowOf pz ∧ b6 ∉ rowOf qz ∧ b6 ≠ r) := by
    refine ⟨fun hg => ?_, fun hg => ?_, ?_⟩
    · rcases frp5 _ hg with g | g
      · have := (h.tow.lt g).2; have := hl6.out; omega
      · have := hl6.out; omega
    · rcases frq5 _ hg with g | g
      · have := (h.kow.lt g).2; have := hl6.out; omega
      · have := hl6.out; omega
    · have := hl6.out; omega
  have hb65 := (kl5.block b6 hl6.out.2 (by simp [hnb.out.2.2])).trans hb6
  have frp : Hid (∀ g, g ∈ rowOf pz → g ∈ rowOf p ∨ w.heap.size + 1 < g) := fun g hg => (frp5 g hg).imp id (fun g2 => by have := hl6.out; omega)
  have frq : Hid (∀ g, g ∈ rowOf qz → g ∈ rowOf (some (⟨gK, 0, none⟩ : Addr)) ∨ w.heap.size + 1 < g) := fun g hg => (frq5 g hg).imp id (fun g2 => by have := hl6.out; omega)
  have kr : Kl [b6] w5 (((w5.setCell ⟨b6, 0, none⟩ (.int .i64 R1.err)).setCell ⟨b6, 1, none⟩ (.int .i64 R1.gen)).setCell ⟨b6, 2, none⟩ (.int .i64 R1.due)) := (((Kl.refl _ _).setCell (by simp) _ _).setCell (by simp) _ _).setCell (by simp) _ _
  have RZ : Hid (Rf base (((w5.setCell ⟨b6, 0, none⟩ (.int .i64 R1.err)).setCell ⟨b6, 1, none⟩ (.int .i64 R1.gen)).setCell ⟨b6, 2, none⟩ (.int .i64 R1.due)) r (⟨ra, ga, Ta, s.K⟩ : St) pz capz qz cqz) := R5.same fun g hg => by
    have hne : g ≠ b6 := by
      rcases hg with rfl | hg | hg
      · exact fun e => hnb.out.2.2 e.symm
      · exact fun e => hnb.out.1 (e ▸ hg)
      · exact fun e => hnb.out.2.1 (e ▸ hg)
    exact ((Below.heap_setCell _ _ _ _ hne).trans (Below.heap_setCell _ _ _ _ hne)).trans (Below.heap_setCell _ _ _ _ hne)
  have hbxz := (kr.block w.heap.size (by have := kl5.size; have := hl6.out; omega) (by have := hl6.out; simp; omega)).trans ((kl5.block w.heap.size (by have := hl6.out; omega) (by simp; omega)).trans hbx)
  have hbrz := (kr.block (w.heap.size + 1) (by have := kl5.size; have := hl6.out; omega) (by have := hl6.out; simp; omega)).trans ((kl5.block (w.heap.size + 1) (by have := hl6.out; omega) (by simp; omega)).trans hbr)
  have hb6z : (((w5.setCell ⟨b6, 0, none⟩ (.int .i64 R1.err)).setCell ⟨b6, 1, none⟩ (.int .i64 R1.gen)).setCell ⟨b6, 2, none⟩ (.int .i64 R1.due)).heap[b6]? = some (rpB R1) := by
    rw [heap_setCell_same _ _ _ _ _ _ (heap_setCell_same _ _ _ _ _ _ (heap_setCell_same _ _ _ _ _ _ hb65))]
    rfl
  have kz : Hid (Kl [r] w (((w5.setCell ⟨b6, 0, none⟩ (.int .i64 R1.err)).setCell ⟨b6, 1, none⟩ (.int .i64 R1.gen)).setCell ⟨b6, 2, none⟩ (.int .i64 R1.due))) := (((Kl.ofBelow k1.out).trans kl5).mono (M := [r, b6]) (fun k hk => by simp only [List.mem_singleton] at hk; subst hk; simp)).trans (kr.mono (fun k hk => by simp only [List.mem_singleton] at hk; subst hk; simp)) |>.mono (fun k hk => by
    simp only [List.mem_cons, List.not_mem_nil, or_false] at hk
    rcases hk with rfl | rfl
    · simp
    · exact .inr (by have := hl6.out; omega))
  have hszz : Hid (b6 < (((w5.setCell ⟨b6, 0, none⟩ (.int .i64 R1.err)).setCell ⟨b6, 1, none⟩ (.int .i64 R1.gen)).setCell ⟨b6, 2, none⟩ (.int .i64 R1.due)).heap.size) := Nat.lt_of_lt_of_le (Nat.lt_of_lt_of_le hl6.out.2 kl5.size) kr.size
  obtain ⟨y0', y1', y2', y3', y4', y5'⟩ := rp_cells hb65
  clear z0 z1 z2 z3 z4 z5 z6 z7 z8 z9 cS hRC R5 frp5 frq5 kl5 hbx hbr hb6 hb65 kr
  go_upto_region 18 with fail
  clear y0' y1' y2' y3' y4' y5'
  generalize ((w5.setCell ⟨b6, 0, none⟩ (.int .i64 R1.err)).setCell ⟨b6, 1, none⟩ (.int .i64 R1.gen)).setCell ⟨b6, 2, none⟩ (.int .i64 R1.due) = wz at *
  skip
  have hkl2 : s.K.length ≤ 1000 := RZ.out.lk
  have hrz := RZ.out.rlt
  have bA : Below wz.heap.size wz (wz.alloc (.cells #[] 50)) := (Below.refl _ _).alloc (Nat.le_refl _) _
  have oA : (wz.alloc (.cells #[] 50)).ownsRow wz.heap.size 50 5 (.slice (some ⟨wz.heap.size, 0, none⟩) 0 0) 0 [] := World.ownsRow_made wz #[] 0 (Nat.le_refl _) (by unfold maxLen; omega) rfl
  obtain ⟨v3, w31, hr3, g3, c31, hv3, o3, hg3, b3⟩ := kcopy (b2 := base) (K := s.K) oA (RZ.out.kow.below bA) hkl2 bA.size
  subst hv3
  have bz3 : Hid (Below wz.heap.size wz w31) := bA.trans (b3.mono bA.size)
  have RA := RZ.out.below bA
  have R3 := RZ.out.below bz3.out
  have d3 : (wz.alloc (.cells #[] 50)).cell? ⟨r, 3, none⟩ = some (.slice qz s.K.length cqz) := RA.c3
  have d3' : w31.cell? ⟨r, 3, none⟩ = some (.slice qz s.K.length cqz) := R3.c3
  have f3' := R3.fz 3
  have hgz : Hid (wz.heap.size ≤ g3) := (World.ownsRow.lt o3 g3 rfl).1
  have R9 : Hid (Rf base (w31.setCell ⟨r, 3, none⟩ (.slice (some ⟨g3, 0, none⟩) s.K.length c31)) r (⟨ra, ga, Ta, s.K⟩ : St) pz capz (some ⟨g3, 0, none⟩) c31) :=
    RZ.out.setK (bz3.out.block r hrz) (fun g hg => bz3.out.block g (RZ.out.tow.lt hg).2) (row_lowK o3 (by have := RZ.out.hb; omega)) rfl hkl2
  have k9 : Hid (Kl [r] w (w31.setCell ⟨r, 3, none⟩ (.slice (some ⟨g3, 0, none⟩) s.K.length c31))) := (kz.out.trans (Kl.ofBelow bz3.out)).setCell (by simp) _ _
  have hne0 : w.heap.size ≠ r := by omega
  have hne1 : w.heap.size + 1 ≠ r := by omega
  have hne2 : b6 ≠ r := by have := hl6.out; omega
  have hbx9 := (Below.heap_setCell w31 ⟨r, 3, none⟩ (.slice (some ⟨g3, 0, none⟩) s.K.length c31) _ hne0).trans ((bz3.out.block w.heap.size (by have := hl6.out; have := hszz.out; omega)).trans hbxz)
  have hbr9 := (Below.heap_setCell w31 ⟨r, 3, none⟩ (.slice (some ⟨g3, 0, none⟩) s.K.length c31) _ hne1).trans ((bz3.out.block (w.heap.size + 1) (by have := hl6.out; have := hszz.out; omega)).trans hbrz)
  have hb69 := (Below.heap_setCell w31 ⟨r, 3, none⟩ (.slice (some ⟨g3, 0, none⟩) s.K.length c31) _ hne2).trans ((bz3.out.block b6 hszz.out).trans hb6z)
  have hlt9 : Hid (b6 < g3) := by have := hgz.out; have := hszz.out; unfold Hid; omega
  replace hr3 := Lib.hid hr3
  clear RA R3 RZ bA oA o3 b3 hg3 hbxz hbrz hb6z kz
  go_wp2_with (at_builtin; refine wpList_append_ati rfl _ _ 45 45 rfl _ _ rfl rfl hr3.out ?_)
  clear hr3 d3 d3' f3'
  generalize w31.setCell ⟨r, 3, none⟩ (.slice (some ⟨g3, 0, none⟩) s.K.length c31) = w9 at *
  have d3 : w9.cell? ⟨r, 3, none⟩ = some (.slice (some ⟨g3, 0, none⟩) s.K.length c31) := R9.out.c3
  obtain ⟨z0, z1, z2, z3, z4, z5, z6, z7, z8, z9⟩ := op_cells (o := (⟨1, oclient, oreq, oid, ogen, oocc, odue, ostamp, oepoch, ocron⟩ : OpN)) hbx9
  obtain ⟨x0', x1', x2', x3', x4', x5'⟩ := rp_cells hb69
  simp only [] at z0 z1 z2 z3 z4 z5 z6 z7 z8 z9
  go_still_tail 12, (by kernel_rfl)
  change wpList _ _ _ _ _ w9.drew
  have hdw : Below w9.heap.size w9 w9.drew := below_dN (Below.refl _ _) 1
  have R10 := Lib.hid (R9.out.below hdw)
  have k10 : Hid (Kl [r] w w9.drew) := k9.out.trans (Kl.ofBelow hdw)
  have hbr10 := (hdw.block (w.heap.size + 1) (lt_in hbr9)).trans hbr9
  have hb610 := (hdw.block b6 (lt_in hb69)).trans hb69
  clear d3 z0 z1 z2 z3 z4 z5 z6 z7 z8 z9 x0' x1' x2' x3' x4' x5' hdw R9 k9 hbx9 hbr9 hb69
  generalize w9.drew = w10 at *
  obtain ⟨_, e_, hgl3, y0, y1, y2, y3, y4⟩ := R10.out.atK k hp
  obtain rfl : g3 = _ := by injection e_ with e_; injection e_
  clear e_
  have fz := fun j => World.ownsRow.frozenAt R10.out.kow j
  have v0 := fz (k * 5)
  have v1 := fz (k * 5 + 1)
  have v2 := fz (k * 5 + 2)
  have v3 := fz (k * 5 + 3)
  have v4 := fz (k * 5 + 4)
  have R11 := Lib.hid (R10.out.putK k hp (⟨oclient, oreq, R1⟩ : Kn))
  have kg : Kl [g3] w10 (((((w10.setCell ⟨g3, k * 5, none⟩ (.int .i64 oclient)).setCell ⟨g3, k * 5 + 1, none⟩ (.int .i64 oreq)).setCell ⟨g3, k * 5 + 2, none⟩ (.int .i64 R1.err)).setCell ⟨g3, k * 5 + 3, none⟩ (.int .i64 R1.gen)).setCell ⟨g3, k * 5 + 4, none⟩ (.int .i64 R1.due)) := (((((Kl.refl _ _).setCell (by simp) _ _).setCell (by simp) _ _).setCell (by simp) _ _).setCell (by simp) _ _).setCell (by simp) _ _
  have k11 : Hid (Kl [r] w (((((w10.setCell ⟨g3, k * 5, none⟩ (.int .i64 oclient)).setCell ⟨g3, k * 5 + 1, none⟩ (.int .i64 oreq)).setCell ⟨g3, k * 5 + 2, none⟩ (.int .i64 R1.err)).setCell ⟨g3, k * 5 + 3, none⟩ (.int .i64 R1.gen)).setCell ⟨g3, k * 5 + 4, none⟩ (.int .i64 R1.due))) := ((k10.out.mono (M := [r, g3]) (fun k hk => by simp only [List.mem_singleton] at hk; subst hk; simp)).trans (kg.mono (fun k hk => by simp only [List.mem_singleton] at hk; subst hk; simp))).mono (fun k hk => by
    simp only [List.mem_cons, List.not_mem_nil, or_false] at hk
    rcases hk with rfl | rfl
    · simp
    · exact .inr (by have := hl6.out; have := hlt9.out; omega))
  have hbr11 := (kg.block (w.heap.size + 1) (lt_in hbr10) (by have := hl6.out; have := hlt9.out; simp; omega)).trans hbr10
  have hb611 := (kg.block b6 (lt_in hb610) (by have := hlt9.out; simp; omega)).trans hb610
  replace fz := True.intro
  go_upto_region 22 with fail
  clear y0 y1 y2 y3 y4 v0 v1 v2 v3 v4 kg hbr10 hb610 R10 k10
  simp only [] at R11
  generalize ((((w10.setCell ⟨g3, k * 5, none⟩ (.int .i64 oclient)).setCell ⟨g3, k * 5 + 1, none⟩ (.int .i64 oreq)).setCell ⟨g3, k * 5 + 2, none⟩ (.int .i64 R1.err)).setCell ⟨g3, k * 5 + 3, none⟩ (.int .i64 R1.gen)).setCell ⟨g3, k * 5 + 4, none⟩ (.int .i64 R1.due) = w11 at *
  obtain ⟨y0', y1', y2', y3', y4', y5'⟩ := rp_cells hbr11
  obtain ⟨x0', x1', x2', x3', x4', x5'⟩ := rp_cells hb611
  have hfin := Lib.hid (rg_end h k11.out R11.out frp.out (fun g hg => .inr (by
    have e : g = g3 := by simpa [rowOf, Value.ownBlock] using hg
    have := hl6.out; have := hlt9.out; omega)) (.int .i64 R1.err) (.int .i64 R1.gen) (.int .i64 R1.due))
  go_wp2_with fail
  refine bodyPost_ret (v := rpV R1) ?_ rfl ?_
  · rw [results_cellA rfl]
    go_simp
  · exact ⟨rfl, hfin.out⟩
end
end Go.Proofs.YtiidhcpflplpiaaGreatDoor

/-
  Layer 8: the document's own service: a request of a client that is new, done and remembered (nothing is cancelled).
-/
set_option linter.unusedVariables false
namespace Go.Proofs.YtiidhcpflplpiaaGreatDoor
open Go.RowKit Crn Nxt Ste
set_option maxRecDepth 100000
section
variable {base : Nat} {w : World} {r : Nat} {s : St} {p : Option Addr} {cap : Nat} {q : Option Addr} {cq : Nat}
set_option maxHeartbeats 8000000 in
theorem rask_new_cn (h : Rf base w r s p cap q cq) (ok : Ok s) (o : OpN) (hkind : o.kind = 2) (hp : ¬ plK o.client s.K < s.K.length) (hfew : s.K.length < 3) (ht : ¬ plT o.id s.T < s.T.length) : Calls Tryz.prog 16 #[.pointer (some ⟨r, 0, none⟩), opV o] w fun e w' => e = .returned (rpV (askN s o).2) ∧ Rg base w r p q w' (askN s o).1 := by
  have k1 : Below w.heap.size w ((w.alloc (opO o)).alloc rp0) := ((Below.refl w.heap.size w).alloc (Nat.le_refl _) (opO o)).alloc (by simp) rp0
  have hbx : ((w.alloc (opO o)).alloc rp0).heap[w.heap.size]? = some (opO o) := (alloc_old (by simp)).trans (Go.heap_alloc_new w (opO o))
  have hbr : ((w.alloc (opO o)).alloc rp0).heap[w.heap.size + 1]? = some rp0 := by
    have := Go.heap_alloc_new (w.alloc (opO o)) rp0
    simpa using this
  have hlt1 : Hid (w.heap.size + 1 < ((w.alloc (opO o)).alloc rp0).heap.size) := by show _ < _; simp
  have hR1 := Lib.hid (h.below k1)
  have ck := Lib.hid (rknown_any hR1.out o.client)
  have hlk := h.lk
  have hlT := h.lt
  have hrl := h.rlt
  have hlki : (s.K.length : Int) ≤ 1000 := by omega
  have hlTi : (s.T.length : Int) ≤ 1000 := by omega
  have hC : changeN s o = (s, ⟨6, 0, 0⟩) := by
    unfold changeN cancelN
    rw [if_neg (by rw [hkind]; decide), plT_find, List.getElem?_eq_none (by omega)]
  have hA : Hid (askN s o = ({ (changeN s o).1 with K := s.K ++ [⟨o.client, o.req, (changeN s o).2⟩] }, (changeN s o).2)) := by
    show _ = _
    unfold askN
    rw [plK_known, List.getElem?_eq_none (by omega)]
    simp only []
    rw [if_neg (by omega)]
  have hat : atN (plK o.client s.K) s.K.length = -1 := by unfold atN; rw [if_neg hp]
  rw [hat] at ck
  have hd0 : decide ((0 : Int) ≤ (-1 : Int)) = false := by simp
  have hd1 : decide (3 ≤ s.K.length) = false := by simp; omega
  have hd2 : decide ((3 : Int) ≤ (s.K.length : Int)) = false := by simp; omega
  clear hat hp
  have cF := Lib.hid (fun W (hR : Rf base W r s p cap q cq) => rfind_any hR o.id)
  have hatt : atN (plT o.id s.T) s.T.length = -1 := by unfold atN; rw [if_neg ht]
  rw [hatt] at cF
  have ht0 : decide ((0 : Int) ≤ (-1 : Int)) = false := by simp
  clear hatt ht
  rw [hC] at hA
  generalize askN s o = AS at *
  obtain rfl := hA.out
  obtain ⟨okind, oclient, oreq, oid, ogen, oocc, odue, ostamp, oepoch, ocron⟩ := o
  simp only [opV, opC, opO, rp0] at *
  subst hkind
  clear k1 hA
  replace k1 : Hid (Below w.heap.size w ((w.alloc (.cells #[.int .i64 2, .int .i64 oclient, .int .i64 oreq, .int .i64 oid, .int .i64 ogen, .int .i64 oocc, .int .i64 odue, .int .i64 ostamp, .int .i64 oepoch, .string ocron] 30)).alloc (.cells #[.int .i64 0, .int .i64 0, .int .i64 0] 34))) := ((Below.refl w.heap.size w).alloc (Nat.le_refl _) _).alloc (by simp) _
  generalize hw1 : (w.alloc (.cells #[.int .i64 2, .int .i64 oclient, .int .i64 oreq, .int .i64 oid, .int .i64 ogen, .int .i64 oocc, .int .i64 odue, .int .i64 ostamp, .int .i64 oepoch, .string ocron] 30)).alloc (.cells #[.int .i64 0, .int .i64 0, .int .i64 0] 34) = w1 at *
  obtain ⟨z0, z1, z2, z3, z4, z5, z6, z7, z8, z9⟩ := op_cells (o := ⟨2, oclient, oreq, oid, ogen, oocc, odue, ostamp, oepoch, ocron⟩) hbx
  simp only [] at z0 z1 z2 z3 z4 z5 z6 z7 z8 z9
  have c3 := hR1.out.c3
  have hw1' := Lib.hid hw1
  go_enter Tryz.func16, Tryz.ntmps16
  go_upto_region 4 with fail
  try rw [hw1]
  clear hw1
  go_wp2_with fail
  refine ck.out.mono ?_
  rintro e w4 ⟨rfl, rfl⟩
  clear ck
  go_wp2_with fail
  go_quiet (fail)
  have kA : Below w1.heap.size w1 (w1.drewN nq) := below_dN (Below.refl _ _) nq
  have hRA := Lib.hid (hR1.out.below kA)
  replace hbx := (kA.block w.heap.size (by have := hlt1.out; omega)).trans hbx
  replace hbr := (kA.block (w.heap.size + 1) hlt1.out).trans hbr
  replace k1 : Hid (Below w.heap.size w (w1.drewN nq)) := k1.out.trans (kA.mono k1.out.size)
  replace hlt1 : Hid (w.heap.size + 1 < (w1.drewN nq).heap.size) := Nat.lt_of_lt_of_le hlt1.out kA.size
  clear hR1 kA z0 z1 z2 z3 z4 z5 z6 z7 z8 z9 c3 hw1' 
  generalize w1.drewN nq = w2 at *
  obtain ⟨z0, z1, z2, z3, z4, z5, z6, z7, z8, z9⟩ := op_cells (o := ⟨2, oclient, oreq, oid, ogen, oocc, odue, ostamp, oepoch, ocron⟩) hbx
  simp only [] at z0 z1 z2 z3 z4 z5 z6 z7 z8 z9
  have c3 := hRA.out.c3
  skip
  go_wp2_with fail
  go_quiet (fail)
  have kA : Below w2.heap.size w2 (w2.drewN nq) := below_dN (Below.refl _ _) nq
  have hRB := Lib.hid (hRA.out.below kA)
  replace hbx := (kA.block w.heap.size (by have := hlt1.out; omega)).trans hbx
  replace hbr := (kA.block (w.heap.size + 1) hlt1.out).trans hbr
  replace k1 : Hid (Below w.heap.size w (w2.drewN nq)) := k1.out.trans (kA.mono k1.out.size)
  replace hlt1 : Hid (w.heap.size + 1 < (w2.drewN nq).heap.size) := Nat.lt_of_lt_of_le hlt1.out kA.size
  clear hRA kA z0 z1 z2 z3 z4 z5 z6 z7 z8 z9 c3 
  generalize w2.drewN nq = w3 at *
  obtain ⟨z0, z1, z2, z3, z4, z5, z6, z7, z8, z9⟩ := op_cells (o := ⟨2, oclient, oreq, oid, ogen, oocc, odue, ostamp, oepoch, ocron⟩) hbx
  simp only [] at z0 z1 z2 z3 z4 z5 z6 z7 z8 z9
  have c3 := hRB.out.c3
  go_upto_region 12 with fail
  have kA : Below w3.heap.size w3 (w3.alloc rp6) := (Below.refl _ _).alloc (Nat.le_refl _) _
  have hRC := Lib.hid (hRB.out.below kA)
  replace hbx := (kA.block w.heap.size (by have := hlt1.out; omega)).trans hbx
  replace hbr := (kA.block (w.heap.size + 1) hlt1.out).trans hbr
  replace k1 : Hid (Below w.heap.size w (w3.alloc rp6)) := k1.out.trans (kA.mono k1.out.size)
  have hb6 : (w3.alloc rp6).heap[w3.heap.size]? = some (rpB ⟨6, 0, 0⟩) := Go.heap_alloc_new w3 _
  have hl6 : Hid (w.heap.size + 1 < w3.heap.size ∧ w3.heap.size < (w3.alloc rp6).heap.size) := ⟨hlt1.out, by simp⟩
  clear hRB kA z0 z1 z2 z3 z4 z5 z6 z7 z8 z9 c3
  replace hlt1 := True.intro
  simp only [rp6, rpB] at *
  generalize w3.alloc (.cells #[.int .i64 6, .int .i64 0, .int .i64 0] 34) = w4 at *
  generalize w3.heap.size = b6 at *
  obtain ⟨z0, z1, z2, z3, z4, z5, z6, z7, z8, z9⟩ := op_cells (o := ⟨2, oclient, oreq, oid, ogen, oocc, odue, ostamp, oepoch, ocron⟩) hbx
  simp only [] at z0 z1 z2 z3 z4 z5 z6 z7 z8 z9
  go_wp2_with fail
  refine (cF.out _ hRC.out).mono ?_
  rintro e w5 ⟨rfl, rfl⟩
  clear cF
  have RZ := hRC
  have frp : Hid (∀ g, g ∈ rowOf p → g ∈ rowOf p ∨ w.heap.size + 1 < g) := fun g hg => .inl hg
  have frq : Hid (∀ g, g ∈ rowOf q → g ∈ rowOf q ∨ w.heap.size + 1 < g) := fun g hg => .inl hg
  have hbxz := hbx
  have hbrz := hbr
  have hb6z := hb6
  have kz : Hid (Kl [r] w w4) := Kl.ofBelow k1.out
  have hszz : Hid (b6 < w4.heap.size) := hl6.out.2
  clear hRC hbx hbr hb6
  go_upto_region 18 with fail
  clear z0 z1 z2 z3 z4 z5 z6 z7 z8 z9
  generalize w4 = wz at *
  have lz : LX wz w.heap.size b6 (⟨2, oclient, oreq, oid, ogen, oocc, odue, ostamp, oepoch, ocron⟩ : OpN) ⟨6, 0, 0⟩ := ⟨hbxz, hb6z⟩
  have hne1 : w.heap.size + 1 ≠ r := by omega
  have hne2 : b6 ≠ r := by have := hl6.out; omega
  have hne3 : w.heap.size ≠ r := by omega
  have hkl2 : s.K.length ≤ 1000 := RZ.out.lk
  have hrz := RZ.out.rlt
  have bA : Below wz.heap.size wz (wz.alloc (.cells #[] 50)).drew := ((Below.refl _ _).alloc (Nat.le_refl _) _).drew
  have bAC : Below wz.heap.size wz ((wz.alloc (.cells #[] 50)).alloc (Obj.cells #[.int .i64 oclient, .int .i64 oreq, .int .i64 6, .int .i64 0, .int .i64 0] 50)).drew := (((Below.refl _ _).alloc (Nat.le_refl _) _).alloc (by simp) _).drew
  have bCA : Below wz.heap.size wz ((wz.alloc (Obj.cells #[.int .i64 oclient, .int .i64 oreq, .int .i64 6, .int .i64 0, .int .i64 0] 50)).alloc (.cells #[] 50)).drew := (((Below.refl _ _).alloc (Nat.le_refl _) _).alloc (by simp) _).drew
  have oA : (wz.alloc (.cells #[] 50)).drew.ownsRow wz.heap.size 50 5 (.slice (some ⟨wz.heap.size, 0, none⟩) 0 0) 0 [] := World.ownsRow_made wz #[] 0 (Nat.le_refl _) (by unfold maxLen; omega) rfl
  have oAC : ((wz.alloc (.cells #[] 50)).alloc (Obj.cells #[.int .i64 oclient, .int .i64 oreq, .int .i64 6, .int .i64 0, .int .i64 0] 50)).drew.ownsRow wz.heap.size 50 5 (.slice (some ⟨wz.heap.size, 0, none⟩) 0 0) 0 [] := World.ownsRow.alloc oA (Obj.cells #[.int .i64 oclient, .int .i64 oreq, .int .i64 6, .int .i64 0, .int .i64 0] 50)
  have oCA : ((wz.alloc (Obj.cells #[.int .i64 oclient, .int .i64 oreq, .int .i64 6, .int .i64 0, .int .i64 0] 50)).alloc (.cells #[] 50)).drew.ownsRow wz.heap.size 50 5 (.slice (some ⟨wz.heap.size + 1, 0, none⟩) 0 0) 0 [] := by
    have := World.ownsRow_made (size := 5) (e := 50) (base := wz.heap.size) (wz.alloc (Obj.cells #[.int .i64 oclient, .int .i64 oreq, .int .i64 6, .int .i64 0, .int .i64 0] 50)) #[] 0 (by simp) (by unfold maxLen; omega) rfl
    rw [World.size_alloc] at this
    exact this
  have b0 : Below wz.heap.size wz wz.drew := (Below.refl _ _).drew
  have bC : Below wz.heap.size wz (wz.alloc (Obj.cells #[.int .i64 oclient, .int .i64 oreq, .int .i64 6, .int .i64 0, .int .i64 0] 50)).drew := ((Below.refl _ _).alloc (Nat.le_refl _) _).drew
  have l0 := lz.below b0
  have lA := lz.below bA
  have lC := lz.below bC
  have lAC := lz.below bAC
  have lCA := lz.below bCA
  have e0 : wz.drew.cell? ⟨r, 3, none⟩ = some (.slice q s.K.length cq) := (RZ.out.below b0).c3
  have eA : (wz.alloc (.cells #[] 50)).drew.cell? ⟨r, 3, none⟩ = some (.slice q s.K.length cq) := (RZ.out.below bA).c3
  have eC : (wz.alloc (Obj.cells #[.int .i64 oclient, .int .i64 oreq, .int .i64 6, .int .i64 0, .int .i64 0] 50)).drew.cell? ⟨r, 3, none⟩ = some (.slice q s.K.length cq) := (RZ.out.below bC).c3
  have eAC : ((wz.alloc (.cells #[] 50)).alloc (Obj.cells #[.int .i64 oclient, .int .i64 oreq, .int .i64 6, .int .i64 0, .int .i64 0] 50)).drew.cell? ⟨r, 3, none⟩ = some (.slice q s.K.length cq) := (RZ.out.below bAC).c3
  have eCA : ((wz.alloc (Obj.cells #[.int .i64 oclient, .int .i64 oreq, .int .i64 6, .int .i64 0, .int .i64 0] 50)).alloc (.cells #[] 50)).drew.cell? ⟨r, 3, none⟩ = some (.slice q s.K.length cq) := (RZ.out.below bCA).c3
  have kA := RZ.out.kow.below bA
  have kAC := RZ.out.kow.below bAC
  have kCA := RZ.out.kow.below bCA
  have hAC : ((wz.alloc (.cells #[] 50)).alloc (Obj.cells #[.int .i64 oclient, .int .i64 oreq, .int .i64 6, .int .i64 0, .int .i64 0] 50)).drew.heap[wz.heap.size + 1]? = some (Obj.cells #[.int .i64 oclient, .int .i64 oreq, .int .i64 6, .int .i64 0, .int .i64 0] 50) := by
    have := Go.heap_alloc_new (wz.alloc (.cells #[] 50)) (Obj.cells #[.int .i64 oclient, .int .i64 oreq, .int .i64 6, .int .i64 0, .int .i64 0] 50)
    rw [World.size_alloc] at this
    exact this
  have hCA : ((wz.alloc (Obj.cells #[.int .i64 oclient, .int .i64 oreq, .int .i64 6, .int .i64 0, .int .i64 0] 50)).alloc (.cells #[] 50)).drew.heap[wz.heap.size]? = some (Obj.cells #[.int .i64 oclient, .int .i64 oreq, .int .i64 6, .int .i64 0, .int .i64 0] 50) := (alloc_old (by simp)).trans (Go.heap_alloc_new wz _)
  have hPA := Lib.hid (kcopy (K := s.K) oA kA hkl2 bA.size)
  have hPAC := Lib.hid (kcopy (K := s.K) oAC kAC hkl2 bAC.size)
  have hPCA := Lib.hid (kcopy (K := s.K) oCA kCA hkl2 bCA.size)
  have hE : Hid (∀ w6 p6 c6, World.ownsRow w6 wz.heap.size 50 5 (.slice p6 (s.K.length + 1) c6) (s.K.length + 1) (flatW encK (s.K ++ [(⟨oclient, oreq, ⟨6, 0, 0⟩⟩ : Kn)])) → Below wz.heap.size wz w6 → KEnd base w r p q (w6.setCell ⟨r, 3, none⟩ (.slice p6 (s.K.length + 1) c6)) b6 ⟨6, 0, 0⟩ { s with K := s.K ++ [(⟨oclient, oreq, ⟨6, 0, 0⟩⟩ : Kn)] }) :=
    fun w6 p6 c6 o6 bz6 => know_end h RZ.out kz.out frp.out ⟨hl6.out.1, hszz.out⟩ hbrz hb6z (by show s.K.length < 1000; omega) o6 bz6
  have hF6 : Hid (∀ w6, Below wz.heap.size wz w6 → w6.cell? ⟨r, 3, none⟩ = some (.slice q s.K.length cq) ∧ w6.frozen? ⟨r, 3, none⟩ = false) := fun w6 k => ⟨(RZ.out.below k).c3, (RZ.out.below k).fz 3⟩
  clear oA oAC oCA kA kAC kCA
  go_upto_region 19 with fail
  clear h RZ kz frp frq hbrz hb6z hbxz hszz hlk hlT hrl hlki hlTi hfew hd0 hd1 hd2
  refine wp_region_noPanic ?_
  refine wp_region_held_drew (S := fun w' => LX w' w.heap.size b6 (⟨2, oclient, oreq, oid, ogen, oocc, odue, ostamp, oepoch, ocron⟩ : OpN) ⟨6, 0, 0⟩ ∧ w'.cell? ⟨w.heap.size, 1, none⟩ = some (.int .i64 oclient) ∧ w'.cell? ⟨w.heap.size, 2, none⟩ = some (.int .i64 oreq) ∧ w'.cell? ⟨b6, 0, none⟩ = some (.int .i64 6) ∧ w'.cell? ⟨b6, 1, none⟩ = some (.int .i64 0) ∧ w'.cell? ⟨b6, 2, none⟩ = some (.int .i64 0)) (by kernel_rfl) ?hS0 (fun hHeld => ?_)
  case hS0 => ((try dsimp only); exact LX.cells l0)
  refine wpAnyH_take (i := 0) (oi := o19_0) (v := ?v3) rfl (by kernel_rfl) (by kernel_rfl) (by kernel_rfl) (fun _ _ _ h => h) (Or.inl ⟨by rfl, ?y3⟩) (by assumption) ?r3
  case y3 => (intro w hSw; (try dsimp only at hSw); unfold o19_0; go_simp; try with_reducible rfl)
  try simp only [Act.put, List.setIfInBounds_toArray, List.set_cons_zero, List.set_cons_succ]
  refine wpAnyH_take (i := 2) (oi := o19_2) (v := ?v6) rfl (by kernel_rfl) (by kernel_rfl) (by kernel_rfl) (fun _ _ _ h => h) (Or.inl ⟨by rfl, ?y6⟩) (by assumption) ?r6
  case y6 => (intro w hSw; (try dsimp only at hSw); unfold o19_2; go_simp; try with_reducible rfl)
  try simp only [Act.put, List.setIfInBounds_toArray, List.set_cons_zero, List.set_cons_succ]
  refine wpAnyH_take (i := 3) (oi := o19_3) (v := ?v9) rfl (by kernel_rfl) (by kernel_rfl) (by kernel_rfl) (fun _ _ _ h => h) (Or.inl ⟨by rfl, ?y9⟩) (by assumption) ?r9
  case y9 => (intro w hSw; (try dsimp only at hSw); unfold o19_3; go_simp; try with_reducible rfl)
  try simp only [Act.put, List.setIfInBounds_toArray, List.set_cons_zero, List.set_cons_succ]
  refine wpAnyH_take (i := 4) (oi := o19_4) (v := ?v12) rfl (by kernel_rfl) (by kernel_rfl) (by kernel_rfl) (fun _ _ _ h => h) (Or.inl ⟨by rfl, ?y12⟩) (by assumption) ?r12
  case y12 => (intro w hSw; (try dsimp only at hSw); unfold o19_4; go_simp; try with_reducible rfl)
  try simp only [Act.put, List.setIfInBounds_toArray, List.set_cons_zero, List.set_cons_succ]
  refine wpAnyH_take (i := 7) (oi := o19_7) (v := ?v15) rfl (by kernel_rfl) (by kernel_rfl) (by kernel_rfl) (fun _ _ _ h => h) (Or.inl ⟨by rfl, ?y15⟩) (by assumption) ?r15
  case y15 => (intro w hSw; (try dsimp only at hSw); unfold o19_7; go_simp; try with_reducible rfl)
  try simp only [Act.put, List.setIfInBounds_toArray, List.set_cons_zero, List.set_cons_succ]
  refine wpAnyH_take (i := 8) (oi := o19_8) (v := ?v18) rfl (by kernel_rfl) (by kernel_rfl) (by kernel_rfl) (fun _ _ _ h => h) (Or.inl ⟨by rfl, ?y18⟩) (by assumption) ?r18
  case y18 => (intro w hSw; (try dsimp only at hSw); unfold o19_8; go_simp; try with_reducible rfl)
  try simp only [Act.put, List.setIfInBounds_toArray, List.set_cons_zero, List.set_cons_succ]
  refine wpAnyH_take (i := 9) (oi := o19_9) (v := ?v21) rfl (by kernel_rfl) (by kernel_rfl) (by kernel_rfl) (fun _ _ _ h => h) (Or.inl ⟨by rfl, ?y21⟩) (by assumption) ?r21
  case y21 => (intro w hSw; (try dsimp only at hSw); unfold o19_9; go_simp; try with_reducible rfl)
  try simp only [Act.put, List.setIfInBounds_toArray, List.set_cons_zero, List.set_cons_succ]
  refine wpAnyH_take (i := 10) (oi := o19_10) (v := ?v24) rfl (by kernel_rfl) (by kernel_rfl) (by kernel_rfl) (fun _ _ _ h => h) (Or.inl ⟨by rfl, ?y24⟩) (by assumption) ?r24
  case y24 => (intro w hSw; (try dsimp only at hSw); unfold o19_10; go_simp; try with_reducible rfl)
  try simp only [Act.put, List.setIfInBounds_toArray, List.set_cons_zero, List.set_cons_succ]
  refine wpAnyH_take (i := 11) (oi := o19_11) (v := ?v27) rfl (by kernel_rfl) (by kernel_rfl) (by kernel_rfl) (fun _ _ _ h => h) (Or.inl ⟨by rfl, ?y27⟩) (by assumption) ?r27
  case y27 => (intro w hSw; (try dsimp only at hSw); unfold o19_11; go_simp; try with_reducible rfl)
  try simp only [Act.put, List.setIfInBounds_toArray, List.set_cons_zero, List.set_cons_succ]
  refine wpAnyH_take (i := 12) (oi := o19_12) (v := ?v30) rfl (by kernel_rfl) (by kernel_rfl) (by kernel_rfl) (fun _ _ _ h => h) (Or.inl ⟨by rfl, ?y30⟩) (by assumption) ?r30
  case y30 => (intro w hSw; (try dsimp only at hSw); unfold o19_12; go_simp; try with_reducible rfl)
  try simp only [Act.put, List.setIfInBounds_toArray, List.set_cons_zero, List.set_cons_succ]
  refine wpAnyH_ready (rs := [1, 5, 13]) (by kernel_rfl) (by simp) ?_
  refine AllReadyH.cons (o := o19_1) rfl (fun K hK => ?_) ?_
  · clear hHeld
    unfold o19_1
    go_simp
    refine hK.out _ _ ?hS38 (fun hHeld => ?_)
    case hS38 => ((try dsimp only); exact LX.cells lA)
    clear hK K
    try simp only [Act.put, List.setIfInBounds_toArray, List.set_cons_zero, List.set_cons_succ]
    refine wpAnyH_ready (rs := [5, 13]) (by kernel_rfl) (by simp) ?_
    refine AllReadyH.cons (o := o19_5) rfl (fun K hK => ?_) ?_
    · clear hHeld
      unfold o19_5
      go_simp
      refine hK.out _ _ ?hS47 (fun hHeld => ?_)
      case hS47 => ((try dsimp only); exact LX.cells lA)
      clear hK K
      try simp only [Act.put, List.setIfInBounds_toArray, List.set_cons_zero, List.set_cons_succ]
      refine wpAnyH_ready (rs := [6, 13]) (by kernel_rfl) (by simp) ?_
      refine AllReadyH.cons (o := o19_6) rfl (fun K hK => ?_) ?_
      · clear hHeld
        unfold o19_6
        refine step_append_w (by with_reducible rfl) (by rfl) _ _ 45 45 (by rfl) _ _ (by rfl) (by rfl) hPA.out ?_
        rintro v3 w3 ⟨g3, c3, rfl, o3, hg3, b3⟩
        have l3 := lA.below b3
        have bz3 := bA.trans (b3.mono bA.size)
        have l3b := l3.below ((Below.refl w3.heap.size w3).alloc (Nat.le_refl _) (Obj.cells #[.int .i64 oclient, .int .i64 oreq, .int .i64 6, .int .i64 0, .int .i64 0] 50))
        have hbY := bz3.alloc bz3.size (Obj.cells #[.int .i64 oclient, .int .i64 oreq, .int .i64 6, .int .i64 0, .int .i64 0] 50)
        have hP2 := Lib.hid (kmore (k := (⟨oclient, oreq, ⟨6, 0, 0⟩⟩ : Kn)) rfl (World.ownsRow.alloc o3 (Obj.cells #[.int .i64 oclient, .int .i64 oreq, .int .i64 6, .int .i64 0, .int .i64 0] 50)) (Go.heap_alloc_new w3 (Obj.cells #[.int .i64 oclient, .int .i64 oreq, .int .i64 6, .int .i64 0, .int .i64 0] 50)) hkl2 hbY.size)
        refine hK.out _ _ ?hS62 (fun hHeld => ?_)
        case hS62 => ((try dsimp only); exact LX.cells l3)
        clear hK K
        try simp only [Act.put, List.setIfInBounds_toArray, List.set_cons_zero, List.set_cons_succ]
        refine wpAnyH_ready (rs := [13]) (by kernel_rfl) (by simp) ?_
        refine AllReadyH.cons (o := o19_13) rfl (fun K hK => ?_) ?_
        · clear hHeld
          unfold o19_13
          go_simp
          refine hK.out _ _ ?hS71 (fun hHeld => ?_)
          case hS71 => ((try dsimp only); exact LX.cells l3b)
          clear hK K
          try simp only [Act.put, List.setIfInBounds_toArray, List.set_cons_zero, List.set_cons_succ]
          refine wpAnyH_ready (rs := [14]) (by kernel_rfl) (by simp) ?_
          refine AllReadyH.cons (o := o19_14) rfl (fun K hK => ?_) ?_
          · clear hHeld
            unfold o19_14
            refine step_append_w (by with_reducible rfl) (by rfl) _ _ 45 45 (by rfl) _ _ (by rfl) (by rfl) hP2.out ?_
            rintro v6 w6 ⟨p6, c6, rfl, o6, b6'⟩
            have bz6 := Lib.hid (hbY.trans b6')
            replace o6 := Lib.hid o6
            have l6 := lz.below bz6.out
            obtain ⟨c6', f6⟩ := hF6.out w6 bz6.out
            refine hK.out _ _ ?hS85 (fun hHeld => ?_)
            case hS85 => ((try dsimp only); exact LX.cells l6)
            clear hK K
            try simp only [Act.put, List.setIfInBounds_toArray, List.set_cons_zero, List.set_cons_succ]
            refine wpAnyH_take (i := 15) (oi := o19_15) (v := ?v89) rfl (by kernel_rfl) (by kernel_rfl) (by kernel_rfl) (fun _ _ _ h => h) (Or.inl ⟨by rfl, ?y89⟩) (by assumption) ?r89
            case y89 => (intro w hSw; (try dsimp only at hSw); unfold o19_15; go_simp; try with_reducible rfl)
            try simp only [Act.put, List.setIfInBounds_toArray, List.set_cons_zero, List.set_cons_succ]
            refine wpAnyH_take (i := 16) (oi := o19_16) (v := ?v92) rfl (by kernel_rfl) (by kernel_rfl) (by kernel_rfl) (fun _ _ _ h => h) (Or.inl ⟨by rfl, ?y92⟩) (by assumption) ?r92
            case y92 => (intro w hSw; (try dsimp only at hSw); unfold o19_16; go_simp; try with_reducible rfl)
            try simp only [Act.put, List.setIfInBounds_toArray, List.set_cons_zero, List.set_cons_succ]
            refine wpAnyH_ready (rs := [17]) (by kernel_rfl) (by simp) ?_
            refine AllReadyH.cons (o := o19_17) rfl (fun K hK => ?_) ?_
            · clear hHeld
              unfold o19_17
              go_simp
              refine hK.out _ _ ?hS100 (fun hHeld => ?_)
              case hS100 => ((try dsimp only); exact LX.cells (l6.set _ _ hne3 hne2))
              clear hK K
              try simp only [Act.put, List.setIfInBounds_toArray, List.set_cons_zero, List.set_cons_succ]
              refine wpAnyH_done (by kernel_rfl) ?_ _
              refine NoPanic.normal ?_
              clear hHeld
              obtain ⟨hbr9, hb69, hfin⟩ := hE.out _ _ _ o6.out bz6.out
              replace hfin := Lib.hid hfin
              clear hE hF6 o6 bz6 l6 f6 c6' l3 hbY
              generalize w6.setCell ⟨r, 3, none⟩ (.slice p6 (s.K.length + 1) c6) = w9 at *
              obtain ⟨y0', y1', y2', y3', y4', y5'⟩ := rp_cells hbr9
              obtain ⟨x0', x1', x2', x3', x4', x5'⟩ := rp_cells hb69
              clear hbr9 hb69
              go_wp2_with fail
              refine bodyPost_ret (v := rpV ⟨6, 0, 0⟩) ?_ rfl ?_
              · rw [results_cellA rfl]
                go_simp
              · exact ⟨rfl, hfin.out⟩
            exact AllReadyH.nil
          exact AllReadyH.nil
        exact AllReadyH.nil
      refine AllReadyH.cons (o := o19_13) rfl (fun K hK => ?_) ?_
      · clear hHeld
        unfold o19_13
        go_simp
        refine hK.out _ _ ?hS126 (fun hHeld => ?_)
        case hS126 => ((try dsimp only); exact LX.cells lAC)
        clear hK K
        try simp only [Act.put, List.setIfInBounds_toArray, List.set_cons_zero, List.set_cons_succ]
        refine wpAnyH_ready (rs := [6]) (by kernel_rfl) (by simp) ?_
        refine AllReadyH.cons (o := o19_6) rfl (fun K hK => ?_) ?_
        · clear hHeld
          unfold o19_6
          refine step_append_w (by with_reducible rfl) (by rfl) _ _ 45 45 (by rfl) _ _ (by rfl) (by rfl) hPAC.out ?_
          rintro v3 w3 ⟨g3, c3, rfl, o3, hg3, b3⟩
          have l3 := lAC.below b3
          have hbY := bAC.trans (b3.mono bAC.size)
          have hP2 := Lib.hid (kmore (k := (⟨oclient, oreq, ⟨6, 0, 0⟩⟩ : Kn)) rfl o3 ((b3.block _ (lt_in hAC)).trans hAC) hkl2 hbY.size)
          refine hK.out _ _ ?hS139 (fun hHeld => ?_)
          case hS139 => ((try dsimp only); exact LX.cells l3)
          clear hK K
          try simp only [Act.put, List.setIfInBounds_toArray, List.set_cons_zero, List.set_cons_succ]
          refine wpAnyH_ready (rs := [14]) (by kernel_rfl) (by simp) ?_
          refine AllReadyH.cons (o := o19_14) rfl (fun K hK => ?_) ?_
          · clear hHeld
            unfold o19_14
            refine step_append_w (by with_reducible rfl) (by rfl) _ _ 45 45 (by rfl) _ _ (by rfl) (by rfl) hP2.out ?_
            rintro v6 w6 ⟨p6, c6, rfl, o6, b6'⟩
            have bz6 := Lib.hid (hbY.trans b6')
            replace o6 := Lib.hid o6
            have l6 := lz.below bz6.out
            obtain ⟨c6', f6⟩ := hF6.out w6 bz6.out
            refine hK.out _ _ ?hS153 (fun hHeld => ?_)
            case hS153 => ((try dsimp only); exact LX.cells l6)
            clear hK K
            try simp only [Act.put, List.setIfInBounds_toArray, List.set_cons_zero, List.set_cons_succ]
            refine wpAnyH_take (i := 15) (oi := o19_15) (v := ?v157) rfl (by kernel_rfl) (by kernel_rfl) (by kernel_rfl) (fun _ _ _ h => h) (Or.inl ⟨by rfl, ?y157⟩) (by assumption) ?r157
            case y157 => (intro w hSw; (try dsimp only at hSw); unfold o19_15; go_simp; try with_reducible rfl)
            try simp only [Act.put, List.setIfInBounds_toArray, List.set_cons_zero, List.set_cons_succ]
            refine wpAnyH_take (i := 16) (oi := o19_16) (v := ?v160) rfl (by kernel_rfl) (by kernel_rfl) (by kernel_rfl) (fun _ _ _ h => h) (Or.inl ⟨by rfl, ?y160⟩) (by assumption) ?r160
            case y160 => (intro w hSw; (try dsimp only at hSw); unfold o19_16; go_simp; try with_reducible rfl)
            try simp only [Act.put, List.setIfInBounds_toArray, List.set_cons_zero, List.set_cons_succ]
            refine wpAnyH_ready (rs := [17]) (by kernel_rfl) (by simp) ?_
            refine AllReadyH.cons (o := o19_17) rfl (fun K hK => ?_) ?_
            · clear hHeld
              unfold o19_17
              go_simp
              refine hK.out _ _ ?hS168 (fun hHeld => ?_)
              case hS168 => ((try dsimp only); exact LX.cells (l6.set _ _ hne3 hne2))
              clear hK K
              try simp only [Act.put, List.setIfInBounds_toArray, List.set_cons_zero, List.set_cons_succ]
              refine wpAnyH_done (by kernel_rfl) ?_ _
              refine NoPanic.normal ?_
              clear hHeld
              obtain ⟨hbr9, hb69, hfin⟩ := hE.out _ _ _ o6.out bz6.out
              replace hfin := Lib.hid hfin
              clear hE hF6 o6 bz6 l6 f6 c6' l3 hbY
              generalize w6.setCell ⟨r, 3, none⟩ (.slice p6 (s.K.length + 1) c6) = w9 at *
              obtain ⟨y0', y1', y2', y3', y4', y5'⟩ := rp_cells hbr9
              obtain ⟨x0', x1', x2', x3', x4', x5'⟩ := rp_cells hb69
              clear hbr9 hb69
              go_wp2_with fail
              refine bodyPost_ret (v := rpV ⟨6, 0, 0⟩) ?_ rfl ?_
              · rw [results_cellA rfl]
                go_simp
              · exact ⟨rfl, hfin.out⟩
            exact AllReadyH.nil
          exact AllReadyH.nil
        exact AllReadyH.nil
      exact AllReadyH.nil
    refine AllReadyH.cons (o := o19_13) rfl (fun K hK => ?_) ?_
    · clear hHeld
      unfold o19_13
      go_simp
      refine hK.out _ _ ?hS195 (fun hHeld => ?_)
      case hS195 => ((try dsimp only); exact LX.cells lAC)
      clear hK K
      try simp only [Act.put, List.setIfInBounds_toArray, List.set_cons_zero, List.set_cons_succ]
      refine wpAnyH_ready (rs := [5]) (by kernel_rfl) (by simp) ?_
      refine AllReadyH.cons (o := o19_5) rfl (fun K hK => ?_) ?_
      · clear hHeld
        unfold o19_5
        go_simp
        refine hK.out _ _ ?hS204 (fun hHeld => ?_)
        case hS204 => ((try dsimp only); exact LX.cells lAC)
        clear hK K
        try simp only [Act.put, List.setIfInBounds_toArray, List.set_cons_zero, List.set_cons_succ]
        refine wpAnyH_ready (rs := [6]) (by kernel_rfl) (by simp) ?_
        refine AllReadyH.cons (o := o19_6) rfl (fun K hK => ?_) ?_
        · clear hHeld
          unfold o19_6
          refine step_append_w (by with_reducible rfl) (by rfl) _ _ 45 45 (by rfl) _ _ (by rfl) (by rfl) hPAC.out ?_
          rintro v3 w3 ⟨g3, c3, rfl, o3, hg3, b3⟩
          have l3 := lAC.below b3
          have hbY := bAC.trans (b3.mono bAC.size)
          have hP2 := Lib.hid (kmore (k := (⟨oclient, oreq, ⟨6, 0, 0⟩⟩ : Kn)) rfl o3 ((b3.block _ (lt_in hAC)).trans hAC) hkl2 hbY.size)
          refine hK.out _ _ ?hS217 (fun hHeld => ?_)
          case hS217 => ((try dsimp only); exact LX.cells l3)
          clear hK K
          try simp only [Act.put, List.setIfInBounds_toArray, List.set_cons_zero, List.set_cons_succ]
          refine wpAnyH_ready (rs := [14]) (by kernel_rfl) (by simp) ?_
          refine AllReadyH.cons (o := o19_14) rfl (fun K hK => ?_) ?_
          · clear hHeld
            unfold o19_14
            refine step_append_w (by with_reducible rfl) (by rfl) _ _ 45 45 (by rfl) _ _ (by rfl) (by rfl) hP2.out ?_
            rintro v6 w6 ⟨p6, c6, rfl, o6, b6'⟩
            have bz6 := Lib.hid (hbY.trans b6')
            replace o6 := Lib.hid o6
            have l6 := lz.below bz6.out
            obtain ⟨c6', f6⟩ := hF6.out w6 bz6.out
            refine hK.out _ _ ?hS231 (fun hHeld => ?_)
            case hS231 => ((try dsimp only); exact LX.cells l6)
            clear hK K
            try simp only [Act.put, List.setIfInBounds_toArray, List.set_cons_zero, List.set_cons_succ]
            refine wpAnyH_take (i := 15) (oi := o19_15) (v := ?v235) rfl (by kernel_rfl) (by kernel_rfl) (by kernel_rfl) (fun _ _ _ h => h) (Or.inl ⟨by rfl, ?y235⟩) (by assumption) ?r235
            case y235 => (intro w hSw; (try dsimp only at hSw); unfold o19_15; go_simp; try with_reducible rfl)
            try simp only [Act.put, List.setIfInBounds_toArray, List.set_cons_zero, List.set_cons_succ]
            refine wpAnyH_take (i := 16) (oi := o19_16) (v := ?v238) rfl (by kernel_rfl) (by kernel_rfl) (by kernel_rfl) (fun _ _ _ h => h) (Or.inl ⟨by rfl, ?y238⟩) (by assumption) ?r238
            case y238 => (intro w hSw; (try dsimp only at hSw); unfold o19_16; go_simp; try with_reducible rfl)
            try simp only [Act.put, List.setIfInBounds_toArray, List.set_cons_zero, List.set_cons_succ]
            refine wpAnyH_ready (rs := [17]) (by kernel_rfl) (by simp) ?_
            refine AllReadyH.cons (o := o19_17) rfl (fun K hK => ?_) ?_
            · clear hHeld
              unfold o19_17
              go_simp
              refine hK.out _ _ ?hS246 (fun hHeld => ?_)
              case hS246 => ((try dsimp only); exact LX.cells (l6.set _ _ hne3 hne2))
              clear hK K
              try simp only [Act.put, List.setIfInBounds_toArray, List.set_cons_zero, List.set_cons_succ]
              refine wpAnyH_done (by kernel_rfl) ?_ _
              refine NoPanic.normal ?_
              clear hHeld
              obtain ⟨hbr9, hb69, hfin⟩ := hE.out _ _ _ o6.out bz6.out
              replace hfin := Lib.hid hfin
              clear hE hF6 o6 bz6 l6 f6 c6' l3 hbY
              generalize w6.setCell ⟨r, 3, none⟩ (.slice p6 (s.K.length + 1) c6) = w9 at *
              obtain ⟨y0', y1', y2', y3', y4', y5'⟩ := rp_cells hbr9
              obtain ⟨x0', x1', x2', x3', x4', x5'⟩ := rp_cells hb69
              clear hbr9 hb69
              go_wp2_with fail
              refine bodyPost_ret (v := rpV ⟨6, 0, 0⟩) ?_ rfl ?_
              · rw [results_cellA rfl]
                go_simp
              · exact ⟨rfl, hfin.out⟩
            exact AllReadyH.nil
          exact AllReadyH.nil
        exact AllReadyH.nil
      exact AllReadyH.nil
    exact AllReadyH.nil
  refine AllReadyH.cons (o := o19_5) rfl (fun K hK => ?_) ?_
  · clear hHeld
    unfold o19_5
    go_simp
    refine hK.out _ _ ?hS274 (fun hHeld => ?_)
    case hS274 => ((try dsimp only); exact LX.cells l0)
    clear hK K
    try simp only [Act.put, List.setIfInBounds_toArray, List.set_cons_zero, List.set_cons_succ]
    refine wpAnyH_ready (rs := [1, 13]) (by kernel_rfl) (by simp) ?_
    refine AllReadyH.cons (o := o19_1) rfl (fun K hK => ?_) ?_
    · clear hHeld
      unfold o19_1
      go_simp
      refine hK.out _ _ ?hS283 (fun hHeld => ?_)
      case hS283 => ((try dsimp only); exact LX.cells lA)
      clear hK K
      try simp only [Act.put, List.setIfInBounds_toArray, List.set_cons_zero, List.set_cons_succ]
      refine wpAnyH_ready (rs := [6, 13]) (by kernel_rfl) (by simp) ?_
      refine AllReadyH.cons (o := o19_6) rfl (fun K hK => ?_) ?_
      · clear hHeld
        unfold o19_6
        refine step_append_w (by with_reducible rfl) (by rfl) _ _ 45 45 (by rfl) _ _ (by rfl) (by rfl) hPA.out ?_
        rintro v3 w3 ⟨g3, c3, rfl, o3, hg3, b3⟩
        have l3 := lA.below b3
        have bz3 := bA.trans (b3.mono bA.size)
        have l3b := l3.below ((Below.refl w3.heap.size w3).alloc (Nat.le_refl _) (Obj.cells #[.int .i64 oclient, .int .i64 oreq, .int .i64 6, .int .i64 0, .int .i64 0] 50))
        have hbY := bz3.alloc bz3.size (Obj.cells #[.int .i64 oclient, .int .i64 oreq, .int .i64 6, .int .i64 0, .int .i64 0] 50)
        have hP2 := Lib.hid (kmore (k := (⟨oclient, oreq, ⟨6, 0, 0⟩⟩ : Kn)) rfl (World.ownsRow.alloc o3 (Obj.cells #[.int .i64 oclient, .int .i64 oreq, .int .i64 6, .int .i64 0, .int .i64 0] 50)) (Go.heap_alloc_new w3 (Obj.cells #[.int .i64 oclient, .int .i64 oreq, .int .i64 6, .int .i64 0, .int .i64 0] 50)) hkl2 hbY.size)
        refine hK.out _ _ ?hS298 (fun hHeld => ?_)
        case hS298 => ((try dsimp only); exact LX.cells l3)
        clear hK K
        try simp only [Act.put, List.setIfInBounds_toArray, List.set_cons_zero, List.set_cons_succ]
        refine wpAnyH_ready (rs := [13]) (by kernel_rfl) (by simp) ?_
        refine AllReadyH.cons (o := o19_13) rfl (fun K hK => ?_) ?_
        · clear hHeld
          unfold o19_13
          go_simp
          refine hK.out _ _ ?hS307 (fun hHeld => ?_)
          case hS307 => ((try dsimp only); exact LX.cells l3b)
          clear hK K
          try simp only [Act.put, List.setIfInBounds_toArray, List.set_cons_zero, List.set_cons_succ]
          refine wpAnyH_ready (rs := [14]) (by kernel_rfl) (by simp) ?_
          refine AllReadyH.cons (o := o19_14) rfl (fun K hK => ?_) ?_
          · clear hHeld
            unfold o19_14
            refine step_append_w (by with_reducible rfl) (by rfl) _ _ 45 45 (by rfl) _ _ (by rfl) (by rfl) hP2.out ?_
            rintro v6 w6 ⟨p6, c6, rfl, o6, b6'⟩
            have bz6 := Lib.hid (hbY.trans b6')
            replace o6 := Lib.hid o6
            have l6 := lz.below bz6.out
            obtain ⟨c6', f6⟩ := hF6.out w6 bz6.out
            refine hK.out _ _ ?hS321 (fun hHeld => ?_)
            case hS321 => ((try dsimp only); exact LX.cells l6)
            clear hK K
            try simp only [Act.put, List.setIfInBounds_toArray, List.set_cons_zero, List.set_cons_succ]
            refine wpAnyH_take (i := 15) (oi := o19_15) (v := ?v325) rfl (by kernel_rfl) (by kernel_rfl) (by kernel_rfl) (fun _ _ _ h => h) (Or.inl ⟨by rfl, ?y325⟩) (by assumption) ?r325
            case y325 => (intro w hSw; (try dsimp only at hSw); unfold o19_15; go_simp; try with_reducible rfl)
            try simp only [Act.put, List.setIfInBounds_toArray, List.set_cons_zero, List.set_cons_succ]
            refine wpAnyH_take (i := 16) (oi := o19_16) (v := ?v328) rfl (by kernel_rfl) (by kernel_rfl) (by kernel_rfl) (fun _ _ _ h => h) (Or.inl ⟨by rfl, ?y328⟩) (by assumption) ?r328
            case y328 => (intro w hSw; (try dsimp only at hSw); unfold o19_16; go_simp; try with_reducible rfl)
            try simp only [Act.put, List.setIfInBounds_toArray, List.set_cons_zero, List.set_cons_succ]
            refine wpAnyH_ready (rs := [17]) (by kernel_rfl) (by simp) ?_
            refine AllReadyH.cons (o := o19_17) rfl (fun K hK => ?_) ?_
            · clear hHeld
              unfold o19_17
              go_simp
              refine hK.out _ _ ?hS336 (fun hHeld => ?_)
              case hS336 => ((try dsimp only); exact LX.cells (l6.set _ _ hne3 hne2))
              clear hK K
              try simp only [Act.put, List.setIfInBounds_toArray, List.set_cons_zero, List.set_cons_succ]
              refine wpAnyH_done (by kernel_rfl) ?_ _
              refine NoPanic.normal ?_
              clear hHeld
              obtain ⟨hbr9, hb69, hfin⟩ := hE.out _ _ _ o6.out bz6.out
              replace hfin := Lib.hid hfin
              clear hE hF6 o6 bz6 l6 f6 c6' l3 hbY
              generalize w6.setCell ⟨r, 3, none⟩ (.slice p6 (s.K.length + 1) c6) = w9 at *
              obtain ⟨y0', y1', y2', y3', y4', y5'⟩ := rp_cells hbr9
              obtain ⟨x0', x1', x2', x3', x4', x5'⟩ := rp_cells hb69
              clear hbr9 hb69
              go_wp2_with fail
              refine bodyPost_ret (v := rpV ⟨6, 0, 0⟩) ?_ rfl ?_
              · rw [results_cellA rfl]
                go_simp
              · exact ⟨rfl, hfin.out⟩
            exact AllReadyH.nil
          exact AllReadyH.nil
        exact AllReadyH.nil
      refine AllReadyH.cons (o := o19_13) rfl (fun K hK => ?_) ?_
      · clear hHeld
        unfold o19_13
        go_simp
        refine hK.out _ _ ?hS362 (fun hHeld => ?_)
        case hS362 => ((try dsimp only); exact LX.cells lAC)
        clear hK K
        try simp only [Act.put, List.setIfInBounds_toArray, List.set_cons_zero, List.set_cons_succ]
        refine wpAnyH_ready (rs := [6]) (by kernel_rfl) (by simp) ?_
        refine AllReadyH.cons (o := o19_6) rfl (fun K hK => ?_) ?_
        · clear hHeld
          unfold o19_6
          refine step_append_w (by with_reducible rfl) (by rfl) _ _ 45 45 (by rfl) _ _ (by rfl) (by rfl) hPAC.out ?_
          rintro v3 w3 ⟨g3, c3, rfl, o3, hg3, b3⟩
          have l3 := lAC.below b3
          have hbY := bAC.trans (b3.mono bAC.size)
          have hP2 := Lib.hid (kmore (k := (⟨oclient, oreq, ⟨6, 0, 0⟩⟩ : Kn)) rfl o3 ((b3.block _ (lt_in hAC)).trans hAC) hkl2 hbY.size)
          refine hK.out _ _ ?hS375 (fun hHeld => ?_)
          case hS375 => ((try dsimp only); exact LX.cells l3)
          clear hK K
          try simp only [Act.put, List.setIfInBounds_toArray, List.set_cons_zero, List.set_cons_succ]
          refine wpAnyH_ready (rs := [14]) (by kernel_rfl) (by simp) ?_
          refine AllReadyH.cons (o := o19_14) rfl (fun K hK => ?_) ?_
          · clear hHeld
            unfold o19_14
            refine step_append_w (by with_reducible rfl) (by rfl) _ _ 45 45 (by rfl) _ _ (by rfl) (by rfl) hP2.out ?_
            rintro v6 w6 ⟨p6, c6, rfl, o6, b6'⟩
            have bz6 := Lib.hid (hbY.trans b6')
            replace o6 := Lib.hid o6
            have l6 := lz.below bz6.out
            obtain ⟨c6', f6⟩ := hF6.out w6 bz6.out
            refine hK.out _ _ ?hS389 (fun hHeld => ?_)
            case hS389 => ((try dsimp only); exact LX.cells l6)
            clear hK K
            try simp only [Act.put, List.setIfInBounds_toArray, List.set_cons_zero, List.set_cons_succ]
            refine wpAnyH_take (i := 15) (oi := o19_15) (v := ?v393) rfl (by kernel_rfl) (by kernel_rfl) (by kernel_rfl) (fun _ _ _ h => h) (Or.inl ⟨by rfl, ?y393⟩) (by assumption) ?r393
            case y393 => (intro w hSw; (try dsimp only at hSw); unfold o19_15; go_simp; try with_reducible rfl)
            try simp only [Act.put, List.setIfInBounds_toArray, List.set_cons_zero, List.set_cons_succ]
            refine wpAnyH_take (i := 16) (oi := o19_16) (v := ?v396) rfl (by kernel_rfl) (by kernel_rfl) (by kernel_rfl) (fun _ _ _ h => h) (Or.inl ⟨by rfl, ?y396⟩) (by assumption) ?r396
            case y396 => (intro w hSw; (try dsimp only at hSw); unfold o19_16; go_simp; try with_reducible rfl)
            try simp only [Act.put, List.setIfInBounds_toArray, List.set_cons_zero, List.set_cons_succ]
            refine wpAnyH_ready (rs := [17]) (by kernel_rfl) (by simp) ?_
            refine AllReadyH.cons (o := o19_17) rfl (fun K hK => ?_) ?_
            · clear hHeld
              unfold o19_17
              go_simp
              refine hK.out _ _ ?hS404 (fun hHeld => ?_)
              case hS404 => ((try dsimp only); exact LX.cells (l6.set _ _ hne3 hne2))
              clear hK K
              try simp only [Act.put, List.setIfInBounds_toArray, List.set_cons_zero, List.set_cons_succ]
              refine wpAnyH_done (by kernel_rfl) ?_ _
              refine NoPanic.normal ?_
              clear hHeld
              obtain ⟨hbr9, hb69, hfin⟩ := hE.out _ _ _ o6.out bz6.out
              replace hfin := Lib.hid hfin
              clear hE hF6 o6 bz6 l6 f6 c6' l3 hbY
              generalize w6.setCell ⟨r, 3, none⟩ (.slice p6 (s.K.length + 1) c6) = w9 at *
              obtain ⟨y0', y1', y2', y3', y4', y5'⟩ := rp_cells hbr9
              obtain ⟨x0', x1', x2', x3', x4', x5'⟩ := rp_cells hb69
              clear hbr9 hb69
              go_wp2_with fail
              refine bodyPost_ret (v := rpV ⟨6, 0, 0⟩) ?_ rfl ?_
              · rw [results_cellA rfl]
                go_simp
              · exact ⟨rfl, hfin.out⟩
            exact AllReadyH.nil
          exact AllReadyH.nil
        exact AllReadyH.nil
      exact AllReadyH.nil
    refine AllReadyH.cons (o := o19_13) rfl (fun K hK => ?_) ?_
    · clear hHeld
      unfold o19_13
      go_simp
      refine hK.out _ _ ?hS431 (fun hHeld => ?_)
      case hS431 => ((try dsimp only); exact LX.cells lC)
      clear hK K
      try simp only [Act.put, List.setIfInBounds_toArray, List.set_cons_zero, List.set_cons_succ]
      refine wpAnyH_ready (rs := [1]) (by kernel_rfl) (by simp) ?_
      refine AllReadyH.cons (o := o19_1) rfl (fun K hK => ?_) ?_
      · clear hHeld
        unfold o19_1
        go_simp
        refine hK.out _ _ ?hS440 (fun hHeld => ?_)
        case hS440 => ((try dsimp only); exact LX.cells lCA)
        clear hK K
        try simp only [Act.put, List.setIfInBounds_toArray, List.set_cons_zero, List.set_cons_succ]
        refine wpAnyH_ready (rs := [6]) (by kernel_rfl) (by simp) ?_
        refine AllReadyH.cons (o := o19_6) rfl (fun K hK => ?_) ?_
        · clear hHeld
          unfold o19_6
          refine step_append_w (by with_reducible rfl) (by rfl) _ _ 45 45 (by rfl) _ _ (by rfl) (by rfl) hPCA.out ?_
          rintro v3 w3 ⟨g3, c3, rfl, o3, hg3, b3⟩
          have l3 := lCA.below b3
          have hbY := bCA.trans (b3.mono bCA.size)
          have hP2 := Lib.hid (kmore (k := (⟨oclient, oreq, ⟨6, 0, 0⟩⟩ : Kn)) rfl o3 ((b3.block _ (lt_in hCA)).trans hCA) hkl2 hbY.size)
          refine hK.out _ _ ?hS453 (fun hHeld => ?_)
          case hS453 => ((try dsimp only); exact LX.cells l3)
          clear hK K
          try simp only [Act.put, List.setIfInBounds_toArray, List.set_cons_zero, List.set_cons_succ]
          refine wpAnyH_ready (rs := [14]) (by kernel_rfl) (by simp) ?_
          refine AllReadyH.cons (o := o19_14) rfl (fun K hK => ?_) ?_
          · clear hHeld
            unfold o19_14
            refine step_append_w (by with_reducible rfl) (by rfl) _ _ 45 45 (by rfl) _ _ (by rfl) (by rfl) hP2.out ?_
            rintro v6 w6 ⟨p6, c6, rfl, o6, b6'⟩
            have bz6 := Lib.hid (hbY.trans b6')
            replace o6 := Lib.hid o6
            have l6 := lz.below bz6.out
            obtain ⟨c6', f6⟩ := hF6.out w6 bz6.out
            refine hK.out _ _ ?hS467 (fun hHeld => ?_)
            case hS467 => ((try dsimp only); exact LX.cells l6)
            clear hK K
            try simp only [Act.put, List.setIfInBounds_toArray, List.set_cons_zero, List.set_cons_succ]
            refine wpAnyH_take (i := 15) (oi := o19_15) (v := ?v471) rfl (by kernel_rfl) (by kernel_rfl) (by kernel_rfl) (fun _ _ _ h => h) (Or.inl ⟨by rfl, ?y471⟩) (by assumption) ?r471
            case y471 => (intro w hSw; (try dsimp only at hSw); unfold o19_15; go_simp; try with_reducible rfl)
            try simp only [Act.put, List.setIfInBounds_toArray, List.set_cons_zero, List.set_cons_succ]
            refine wpAnyH_take (i := 16) (oi := o19_16) (v := ?v474) rfl (by kernel_rfl) (by kernel_rfl) (by kernel_rfl) (fun _ _ _ h => h) (Or.inl ⟨by rfl, ?y474⟩) (by assumption) ?r474
            case y474 => (intro w hSw; (try dsimp only at hSw); unfold o19_16; go_simp; try with_reducible rfl)
            try simp only [Act.put, List.setIfInBounds_toArray, List.set_cons_zero, List.set_cons_succ]
            refine wpAnyH_ready (rs := [17]) (by kernel_rfl) (by simp) ?_
            refine AllReadyH.cons (o := o19_17) rfl (fun K hK => ?_) ?_
            · clear hHeld
              unfold o19_17
              go_simp
              refine hK.out _ _ ?hS482 (fun hHeld => ?_)
              case hS482 => ((try dsimp only); exact LX.cells (l6.set _ _ hne3 hne2))
              clear hK K
              try simp only [Act.put, List.setIfInBounds_toArray, List.set_cons_zero, List.set_cons_succ]
              refine wpAnyH_done (by kernel_rfl) ?_ _
              refine NoPanic.normal ?_
              clear hHeld
              obtain ⟨hbr9, hb69, hfin⟩ := hE.out _ _ _ o6.out bz6.out
              replace hfin := Lib.hid hfin
              clear hE hF6 o6 bz6 l6 f6 c6' l3 hbY
              generalize w6.setCell ⟨r, 3, none⟩ (.slice p6 (s.K.length + 1) c6) = w9 at *
              obtain ⟨y0', y1', y2', y3', y4', y5'⟩ := rp_cells hbr9
              obtain ⟨x0', x1', x2', x3', x4', x5'⟩ := rp_cells hb69
              clear hbr9 hb69
              go_wp2_with fail
              refine bodyPost_ret (v := rpV ⟨6, 0, 0⟩) ?_ rfl ?_
              · rw [results_cellA rfl]
                go_simp
              · exact ⟨rfl, hfin.out⟩
            exact AllReadyH.nil
          exact AllReadyH.nil
        exact AllReadyH.nil
      exact AllReadyH.nil
    exact AllReadyH.nil
  refine AllReadyH.cons (o := o19_13) rfl (fun K hK => ?_) ?_
  · clear hHeld
    unfold o19_13
    go_simp
    refine hK.out _ _ ?hS510 (fun hHeld => ?_)
    case hS510 => ((try dsimp only); exact LX.cells lC)
    clear hK K
    try simp only [Act.put, List.setIfInBounds_toArray, List.set_cons_zero, List.set_cons_succ]
    refine wpAnyH_ready (rs := [1, 5]) (by kernel_rfl) (by simp) ?_
    refine AllReadyH.cons (o := o19_1) rfl (fun K hK => ?_) ?_
    · clear hHeld
      unfold o19_1
      go_simp
      refine hK.out _ _ ?hS519 (fun hHeld => ?_)
      case hS519 => ((try dsimp only); exact LX.cells lCA)
      clear hK K
      try simp only [Act.put, List.setIfInBounds_toArray, List.set_cons_zero, List.set_cons_succ]
      refine wpAnyH_ready (rs := [5]) (by kernel_rfl) (by simp) ?_
      refine AllReadyH.cons (o := o19_5) rfl (fun K hK => ?_) ?_
      · clear hHeld
        unfold o19_5
        go_simp
        refine hK.out _ _ ?hS528 (fun hHeld => ?_)
        case hS528 => ((try dsimp only); exact LX.cells lCA)
        clear hK K
        try simp only [Act.put, List.setIfInBounds_toArray, List.set_cons_zero, List.set_cons_succ]
        refine wpAnyH_ready (rs := [6]) (by kernel_rfl) (by simp) ?_
        refine AllReadyH.cons (o := o19_6) rfl (fun K hK => ?_) ?_
        · clear hHeld
          unfold o19_6
          refine step_append_w (by with_reducible rfl) (by rfl) _ _ 45 45 (by rfl) _ _ (by rfl) (by rfl) hPCA.out ?_
          rintro v3 w3 ⟨g3, c3, rfl, o3, hg3, b3⟩
          have l3 := lCA.below b3
          have hbY := bCA.trans (b3.mono bCA.size)
          have hP2 := Lib.hid (kmore (k := (⟨oclient, oreq, ⟨6, 0, 0⟩⟩ : Kn)) rfl o3 ((b3.block _ (lt_in hCA)).trans hCA) hkl2 hbY.size)
          refine hK.out _ _ ?hS541 (fun hHeld => ?_)
          case hS541 => ((try dsimp only); exact LX.cells l3)
          clear hK K
          try simp only [Act.put, List.setIfInBounds_toArray, List.set_cons_zero, List.set_cons_succ]
          refine wpAnyH_ready (rs := [14]) (by kernel_rfl) (by simp) ?_
          refine AllReadyH.cons (o := o19_14) rfl (fun K hK => ?_) ?_
          · clear hHeld
            unfold o19_14
            refine step_append_w (by with_reducible rfl) (by rfl) _ _ 45 45 (by rfl) _ _ (by rfl) (by rfl) hP2.out ?_
            rintro v6 w6 ⟨p6, c6, rfl, o6, b6'⟩
            have bz6 := Lib.hid (hbY.trans b6')
            replace o6 := Lib.hid o6
            have l6 := lz.below bz6.out
            obtain ⟨c6', f6⟩ := hF6.out w6 bz6.out
            refine hK.out _ _ ?hS555 (fun hHeld => ?_)
            case hS555 => ((try dsimp only); exact LX.cells l6)
            clear hK K
            try simp only [Act.put, List.setIfInBounds_toArray, List.set_cons_zero, List.set_cons_succ]
            refine wpAnyH_take (i := 15) (oi := o19_15) (v := ?v559) rfl (by kernel_rfl) (by kernel_rfl) (by kernel_rfl) (fun _ _ _ h => h) (Or.inl ⟨by rfl, ?y559⟩) (by assumption) ?r559
            case y559 => (intro w hSw; (try dsimp only at hSw); unfold o19_15; go_simp; try with_reducible rfl)
            try simp only [Act.put, List.setIfInBounds_toArray, List.set_cons_zero, List.set_cons_succ]
            refine wpAnyH_take (i := 16) (oi := o19_16) (v := ?v562) rfl (by kernel_rfl) (by kernel_rfl) (by kernel_rfl) (fun _ _ _ h => h) (Or.inl ⟨by rfl, ?y562⟩) (by assumption) ?r562
            case y562 => (intro w hSw; (try dsimp only at hSw); unfold o19_16; go_simp; try with_reducible rfl)
            try simp only [Act.put, List.setIfInBounds_toArray, List.set_cons_zero, List.set_cons_succ]
            refine wpAnyH_ready (rs := [17]) (by kernel_rfl) (by simp) ?_
            refine AllReadyH.cons (o := o19_17) rfl (fun K hK => ?_) ?_
            · clear hHeld
              unfold o19_17
              go_simp
              refine hK.out _ _ ?hS570 (fun hHeld => ?_)
              case hS570 => ((try dsimp only); exact LX.cells (l6.set _ _ hne3 hne2))
              clear hK K
              try simp only [Act.put, List.setIfInBounds_toArray, List.set_cons_zero, List.set_cons_succ]
              refine wpAnyH_done (by kernel_rfl) ?_ _
              refine NoPanic.normal ?_
              clear hHeld
              obtain ⟨hbr9, hb69, hfin⟩ := hE.out _ _ _ o6.out bz6.out
              replace hfin := Lib.hid hfin
              clear hE hF6 o6 bz6 l6 f6 c6' l3 hbY
              generalize w6.setCell ⟨r, 3, none⟩ (.slice p6 (s.K.length + 1) c6) = w9 at *
              obtain ⟨y0', y1', y2', y3', y4', y5'⟩ := rp_cells hbr9
              obtain ⟨x0', x1', x2', x3', x4', x5'⟩ := rp_cells hb69
              clear hbr9 hb69
              go_wp2_with fail
              refine bodyPost_ret (v := rpV ⟨6, 0, 0⟩) ?_ rfl ?_
              · rw [results_cellA rfl]
                go_simp
              · exact ⟨rfl, hfin.out⟩
            exact AllReadyH.nil
          exact AllReadyH.nil
        exact AllReadyH.nil
      exact AllReadyH.nil
    refine AllReadyH.cons (o := o19_5) rfl (fun K hK => ?_) ?_
    · clear hHeld
      unfold o19_5
      go_simp
      refine hK.out _ _ ?hS597 (fun hHeld => ?_)
      case hS597 => ((try dsimp only); exact LX.cells lC)
      clear hK K
      try simp only [Act.put, List.setIfInBounds_toArray, List.set_cons_zero, List.set_cons_succ]
      refine wpAnyH_ready (rs := [1]) (by kernel_rfl) (by simp) ?_
      refine AllReadyH.cons (o := o19_1) rfl (fun K hK => ?_) ?_
      · clear hHeld
        unfold o19_1
        go_simp
        refine hK.out _ _ ?hS606 (fun hHeld => ?_)
        case hS606 => ((try dsimp only); exact LX.cells lCA)
        clear hK K
        try simp only [Act.put, List.setIfInBounds_toArray, List.set_cons_zero, List.set_cons_succ]
        refine wpAnyH_ready (rs := [6]) (by kernel_rfl) (by simp) ?_
        refine AllReadyH.cons (o := o19_6) rfl (fun K hK => ?_) ?_
        · clear hHeld
          unfold o19_6
          refine step_append_w (by with_reducible rfl) (by rfl) _ _ 45 45 (by rfl) _ _ (by rfl) (by rfl) hPCA.out ?_
          rintro v3 w3 ⟨g3, c3, rfl, o3, hg3, b3⟩
          have l3 := lCA.below b3
          have hbY := bCA.trans (b3.mono bCA.size)
          have hP2 := Lib.hid (kmore (k := (⟨oclient, oreq, ⟨6, 0, 0⟩⟩ : Kn)) rfl o3 ((b3.block _ (lt_in hCA)).trans hCA) hkl2 hbY.size)
          refine hK.out _ _ ?hS619 (fun hHeld => ?_)
          case hS619 => ((try dsimp only); exact LX.cells l3)
          clear hK K
          try simp only [Act.put, List.setIfInBounds_toArray, List.set_cons_zero, List.set_cons_succ]
          refine wpAnyH_ready (rs := [14]) (by kernel_rfl) (by simp) ?_
          refine AllReadyH.cons (o := o19_14) rfl (fun K hK => ?_) ?_
          · clear hHeld
            unfold o19_14
            refine step_append_w (by with_reducible rfl) (by rfl) _ _ 45 45 (by rfl) _ _ (by rfl) (by rfl) hP2.out ?_
            rintro v6 w6 ⟨p6, c6, rfl, o6, b6'⟩
            have bz6 := Lib.hid (hbY.trans b6')
            replace o6 := Lib.hid o6
            have l6 := lz.below bz6.out
            obtain ⟨c6', f6⟩ := hF6.out w6 bz6.out
            refine hK.out _ _ ?hS633 (fun hHeld => ?_)
            case hS633 => ((try dsimp only); exact LX.cells l6)
            clear hK K
            try simp only [Act.put, List.setIfInBounds_toArray, List.set_cons_zero, List.set_cons_succ]
            refine wpAnyH_take (i := 15) (oi := o19_15) (v := ?v637) rfl (by kernel_rfl) (by kernel_rfl) (by kernel_rfl) (fun _ _ _ h => h) (Or.inl ⟨by rfl, ?y637⟩) (by assumption) ?r637
            case y637 => (intro w hSw; (try dsimp only at hSw); unfold o19_15; go_simp; try with_reducible rfl)
            try simp only [Act.put, List.setIfInBounds_toArray, List.set_cons_zero, List.set_cons_succ]
            refine wpAnyH_take (i := 16) (oi := o19_16) (v := ?v640) rfl (by kernel_rfl) (by kernel_rfl) (by kernel_rfl) (fun _ _ _ h => h) (Or.inl ⟨by rfl, ?y640⟩) (by assumption) ?r640
            case y640 => (intro w hSw; (try dsimp only at hSw); unfold o19_16; go_simp; try with_reducible rfl)
            try simp only [Act.put, List.setIfInBounds_toArray, List.set_cons_zero, List.set_cons_succ]
            refine wpAnyH_ready (rs := [17]) (by kernel_rfl) (by simp) ?_
            refine AllReadyH.cons (o := o19_17) rfl (fun K hK => ?_) ?_
            · clear hHeld
              unfold o19_17
              go_simp
              refine hK.out _ _ ?hS648 (fun hHeld => ?_)
              case hS648 => ((try dsimp only); exact LX.cells (l6.set _ _ hne3 hne2))
              clear hK K
              try simp only [Act.put, List.setIfInBounds_toArray, List.set_cons_zero, List.set_cons_succ]
              refine wpAnyH_done (by kernel_rfl) ?_ _
              refine NoPanic.normal ?_
              clear hHeld
              obtain ⟨hbr9, hb69, hfin⟩ := hE.out _ _ _ o6.out bz6.out
              replace hfin := Lib.hid hfin
              clear hE hF6 o6 bz6 l6 f6 c6' l3 hbY
              generalize w6.setCell ⟨r, 3, none⟩ (.slice p6 (s.K.length + 1) c6) = w9 at *
              obtain ⟨y0', y1', y2', y3', y4', y5'⟩ := rp_cells hbr9
              obtain ⟨x0', x1', x2', x3', x4', x5'⟩ := rp_cells hb69
              clear hbr9 hb69
              go_wp2_with fail
              refine bodyPost_ret (v := rpV ⟨6, 0, 0⟩) ?_ rfl ?_
              · rw [results_cellA rfl]
                go_simp
              · exact ⟨rfl, hfin.out⟩
            exact AllReadyH.nil
          exact AllReadyH.nil
        exact AllReadyH.nil
      exact AllReadyH.nil
    exact AllReadyH.nil
  exact AllReadyH.nil
end
end Go.Proofs.YtiidhcpflplpiaaGreatDoor

/-
  Layer 8: the document's own service: a request of a client that is new, done and remembered (set).
-/
set_option linter.unusedVariables false
namespace Go.Proofs.YtiidhcpflplpiaaGreatDoor
open Go.RowKit Crn Nxt Ste
set_option maxRecDepth 100000
section
variable {base : Nat} {w : World} {r : Nat} {s : St} {p : Option Addr} {cap : Nat} {q : Option Addr} {cq : Nat}
set_option maxHeartbeats 8000000 in
theorem rask_new_set (h : Rf base w r s p cap q cq) (ok : Ok s) (o : OpN) (hkind : o.kind = 1) (hp : ¬ plK o.client s.K < s.K.length) (hfew : s.K.length < 3) (cS : ∀ W, Rf base W r s p cap q cq → Calls Tryz.prog 34 #[.pointer (some ⟨r, 0, none⟩), opV o] W fun e w' => e = .returned (rpV (setN s o).2) ∧ Rg base W r p q w' (setN s o).1) : Calls Tryz.prog 16 #[.pointer (some ⟨r, 0, none⟩), opV o] w fun e w' => e = .returned (rpV (askN s o).2) ∧ Rg base w r p q w' (askN s o).1 := by
  have k1 : Below w.heap.size w ((w.alloc (opO o)).alloc rp0) := ((Below.refl w.heap.size w).alloc (Nat.le_refl _) (opO o)).alloc (by simp) rp0
  have hbx : ((w.alloc (opO o)).alloc rp0).heap[w.heap.size]? = some (opO o) := (alloc_old (by simp)).trans (Go.heap_alloc_new w (opO o))
  have hbr : ((w.alloc (opO o)).alloc rp0).heap[w.heap.size + 1]? = some rp0 := by
    have := Go.heap_alloc_new (w.alloc (opO o)) rp0
    simpa using this
  have hlt1 : Hid (w.heap.size + 1 < ((w.alloc (opO o)).alloc rp0).heap.size) := by show _ < _; simp
  have hR1 := Lib.hid (h.below k1)
  have ck := Lib.hid (rknown_any hR1.out o.client)
  have hlk := h.lk
  have hlT := h.lt
  have hrl := h.rlt
  have hlki : (s.K.length : Int) ≤ 1000 := by omega
  have hlTi : (s.T.length : Int) ≤ 1000 := by omega
  have hC : changeN s o = setN s o := by unfold changeN; rw [if_pos hkind]
  have hTK : Hid ((setN s o).1.K = s.K) := set_K s o
  have hTl : Hid ((setN s o).1.K.length = s.K.length) := by show _ = _; rw [set_K]
  rw [← hC] at cS hTK hTl
  have hA : Hid (askN s o = ({ (changeN s o).1 with K := s.K ++ [⟨o.client, o.req, (changeN s o).2⟩] }, (changeN s o).2)) := by
    show _ = _
    unfold askN
    rw [plK_known, List.getElem?_eq_none (by omega)]
    simp only []
    rw [if_neg (by omega)]
  have hat : atN (plK o.client s.K) s.K.length = -1 := by unfold atN; rw [if_neg hp]
  rw [hat] at ck
  have hd0 : decide ((0 : Int) ≤ (-1 : Int)) = false := by simp
  have hd1 : decide (3 ≤ s.K.length) = false := by simp; omega
  have hd2 : decide ((3 : Int) ≤ (s.K.length : Int)) = false := by simp; omega
  clear hat hp
  have cF := Lib.hid (fun W (hR : Rf base W r s p cap q cq) => rfind_any hR o.id)
  generalize atN (plT o.id s.T) s.T.length = zt at *
  replace cS := Lib.hid cS
  rw [hC] at hA hTK hTl cS
  clear hC
  generalize setN s o = PS at *
  obtain ⟨⟨ra, ga, Ta, Ka⟩, R1⟩ := PS
  simp only [] at hA hTK hTl cS
  obtain rfl : Ka = s.K := hTK.out
  clear hTK hTl
  generalize askN s o = AS at *
  obtain rfl := hA.out
  obtain ⟨okind, oclient, oreq, oid, ogen, oocc, odue, ostamp, oepoch, ocron⟩ := o
  simp only [opV, opC, opO, rp0] at *
  subst hkind
  clear k1 hA
  replace k1 : Hid (Below w.heap.size w ((w.alloc (.cells #[.int .i64 1, .int .i64 oclient, .int .i64 oreq, .int .i64 oid, .int .i64 ogen, .int .i64 oocc, .int .i64 odue, .int .i64 ostamp, .int .i64 oepoch, .string ocron] 30)).alloc (.cells #[.int .i64 0, .int .i64 0, .int .i64 0] 34))) := ((Below.refl w.heap.size w).alloc (Nat.le_refl _) _).alloc (by simp) _
  generalize hw1 : (w.alloc (.cells #[.int .i64 1, .int .i64 oclient, .int .i64 oreq, .int .i64 oid, .int .i64 ogen, .int .i64 oocc, .int .i64 odue, .int .i64 ostamp, .int .i64 oepoch, .string ocron] 30)).alloc (.cells #[.int .i64 0, .int .i64 0, .int .i64 0] 34) = w1 at *
  obtain ⟨z0, z1, z2, z3, z4, z5, z6, z7, z8, z9⟩ := op_cells (o := ⟨1, oclient, oreq, oid, ogen, oocc, odue, ostamp, oepoch, ocron⟩) hbx
  simp only [] at z0 z1 z2 z3 z4 z5 z6 z7 z8 z9
  have c3 := hR1.out.c3
  have hw1' := Lib.hid hw1
  go_enter Tryz.func16, Tryz.ntmps16
  go_upto_region 4 with fail
  try rw [hw1]
  clear hw1
  go_wp2_with fail
  refine ck.out.mono ?_
  rintro e w4 ⟨rfl, rfl⟩
  clear ck
  go_wp2_with fail
  go_quiet (fail)
  have kA : Below w1.heap.size w1 (w1.drewN nq) := below_dN (Below.refl _ _) nq
  have hRA := Lib.hid (hR1.out.below kA)
  replace hbx := (kA.block w.heap.size (by have := hlt1.out; omega)).trans hbx
  replace hbr := (kA.block (w.heap.size + 1) hlt1.out).trans hbr
  replace k1 : Hid (Below w.heap.size w (w1.drewN nq)) := k1.out.trans (kA.mono k1.out.size)
  replace hlt1 : Hid (w.heap.size + 1 < (w1.drewN nq).heap.size) := Nat.lt_of_lt_of_le hlt1.out kA.size
  clear hR1 kA z0 z1 z2 z3 z4 z5 z6 z7 z8 z9 c3 hw1' 
  generalize w1.drewN nq = w2 at *
  obtain ⟨z0, z1, z2, z3, z4, z5, z6, z7, z8, z9⟩ := op_cells (o := ⟨1, oclient, oreq, oid, ogen, oocc, odue, ostamp, oepoch, ocron⟩) hbx
  simp only [] at z0 z1 z2 z3 z4 z5 z6 z7 z8 z9
  have c3 := hRA.out.c3
  skip
  go_wp2_with fail
  go_quiet (fail)
  have kA : Below w2.heap.size w2 (w2.drewN nq) := below_dN (Below.refl _ _) nq
  have hRB := Lib.hid (hRA.out.below kA)
  replace hbx := (kA.block w.heap.size (by have := hlt1.out; omega)).trans hbx
  replace hbr := (kA.block (w.heap.size + 1) hlt1.out).trans hbr
  replace k1 : Hid (Below w.heap.size w (w2.drewN nq)) := k1.out.trans (kA.mono k1.out.size)
  replace hlt1 : Hid (w.heap.size + 1 < (w2.drewN nq).heap.size) := Nat.lt_of_lt_of_le hlt1.out kA.size
  clear hRA kA z0 z1 z2 z3 z4 z5 z6 z7 z8 z9 c3 
  generalize w2.drewN nq = w3 at *
  obtain ⟨z0, z1, z2, z3, z4, z5, z6, z7, z8, z9⟩ := op_cells (o := ⟨1, oclient, oreq, oid, ogen, oocc, odue, ostamp, oepoch, ocron⟩) hbx
  simp only [] at z0 z1 z2 z3 z4 z5 z6 z7 z8 z9
  have c3 := hRB.out.c3
  go_upto_region 12 with fail
  have kA : Below w3.heap.size w3 (w3.alloc rp6) := (Below.refl _ _).alloc (Nat.le_refl _) _
  have hRC := Lib.hid (hRB.out.below kA)
  replace hbx := (kA.block w.heap.size (by have := hlt1.out; omega)).trans hbx
  replace hbr := (kA.block (w.heap.size + 1) hlt1.out).trans hbr
  replace k1 : Hid (Below w.heap.size w (w3.alloc rp6)) := k1.out.trans (kA.mono k1.out.size)
  have hb6 : (w3.alloc rp6).heap[w3.heap.size]? = some (rpB ⟨6, 0, 0⟩) := Go.heap_alloc_new w3 _
  have hl6 : Hid (w.heap.size + 1 < w3.heap.size ∧ w3.heap.size < (w3.alloc rp6).heap.size) := ⟨hlt1.out, by simp⟩
  clear hRB kA z0 z1 z2 z3 z4 z5 z6 z7 z8 z9 c3
  replace hlt1 := True.intro
  simp only [rp6, rpB] at *
  generalize w3.alloc (.cells #[.int .i64 6, .int .i64 0, .int .i64 0] 34) = w4 at *
  generalize w3.heap.size = b6 at *
  obtain ⟨z0, z1, z2, z3, z4, z5, z6, z7, z8, z9⟩ := op_cells (o := ⟨1, oclient, oreq, oid, ogen, oocc, odue, ostamp, oepoch, ocron⟩) hbx
  simp only [] at z0 z1 z2 z3 z4 z5 z6 z7 z8 z9
  go_wp2_with fail
  refine (cF.out _ hRC.out).mono ?_
  rintro e w5 ⟨rfl, rfl⟩
  clear cF
  go_wp2_with fail
  refine (cS.out _ hRC.out).mono ?_
  rintro e w5 ⟨rfl, ⟨pz, capz, qz, cqz, R5, frp5, frq5⟩, kl5⟩
  have hnb : Hid (b6 ∉ rowOf pz ∧ b6 ∉ rowOf qz ∧ b6 ≠ r) := by
    refine ⟨fun hg => ?_, fun hg => ?_, ?_⟩
    · rcases frp5 _ hg with g | g
      · have := (h.tow.lt g).2; have := hl6.out; omega
      · have := hl6.out; omega
    · rcases frq5 _ hg with g | g
      · have := (h.kow.lt g).2; have := hl6.out; omega
      · have := hl6.out; omega
    · have := hl6.out; omega
  have hb65 := (kl5.block b6 hl6.out.2 (by simp [hnb.out.2.2])).trans hb6
  have frp : Hid (∀ g, g ∈ rowOf pz → g ∈ rowOf p ∨ w.heap.size + 1 < g) := fun g hg => (frp5 g hg).imp id (fun g2 => by have := hl6.out; omega)
  have frq : Hid (∀ g, g ∈ rowOf qz → g ∈ rowOf q ∨ w.heap.size + 1 < g) := fun g hg => (frq5 g hg).imp id (fun g2 => by have := hl6.out; omega)
  have kr : Kl [b6] w5 (((w5.setCell ⟨b6, 0, none⟩ (.int .i64 R1.err)).setCell ⟨b6, 1, none⟩ (.int .i64 R1.gen)).setCell ⟨b6, 2, none⟩ (.int .i64 R1.due)) := (((Kl.refl _ _).setCell (by simp) _ _).setCell (by simp) _ _).setCell (by simp) _ _
  have RZ : Hid (Rf base (((w5.setCell ⟨b6, 0, none⟩ (.int .i64 R1.err)).setCell ⟨b6, 1, none⟩ (.int .i64 R1.gen)).setCell ⟨b6, 2, none⟩ (.int .i64 R1.due)) r (⟨ra, ga, Ta, s.K⟩ : St) pz capz qz cqz) := R5.same fun g hg => by
    have hne : g ≠ b6 := by
      rcases hg with rfl | hg | hg
      · exact fun e => hnb.out.2.2 e.symm
      · exact fun e => hnb.out.1 (e ▸ hg)
      · exact fun e => hnb.out.2.1 (e ▸ hg)
    exact ((Below.heap_setCell _ _ _ _ hne).trans (Below.heap_setCell _ _ _ _ hne)).trans (Below.heap_setCell _ _ _ _ hne)
  have hbxz := (kr.block w.heap.size (by have := kl5.size; have := hl6.out; omega) (by have := hl6.out; simp; omega)).trans ((kl5.block w.heap.size (by have := hl6.out; omega) (by simp; omega)).trans hbx)
  have hbrz := (kr.block (w.heap.size + 1) (by have := kl5.size; have := hl6.out; omega) (by have := hl6.out; simp; omega)).trans ((kl5.block (w.heap.size + 1) (by have := hl6.out; omega) (by simp; omega)).trans hbr)
  have hb6z : (((w5.setCell ⟨b6, 0, none⟩ (.int .i64 R1.err)).setCell ⟨b6, 1, none⟩ (.int .i64 R1.gen)).setCell ⟨b6, 2, none⟩ (.int .i64 R1.due)).heap[b6]? = some (rpB R1) := by
    rw [heap_setCell_same _ _ _ _ _ _ (heap_setCell_same _ _ _ _ _ _ (heap_setCell_same _ _ _ _ _ _ hb65))]
    rfl
  have kz : Hid (Kl [r] w (((w5.setCell ⟨b6, 0, none⟩ (.int .i64 R1.err)).setCell ⟨b6, 1, none⟩ (.int .i64 R1.gen)).setCell ⟨b6, 2, none⟩ (.int .i64 R1.due))) := (((Kl.ofBelow k1.out).trans kl5).mono (M := [r, b6]) (fun k hk => by simp only [List.mem_singleton] at hk; subst hk; simp)).trans (kr.mono (fun k hk => by simp only [List.mem_singleton] at hk; subst hk; simp)) |>.mono (fun k hk => by
    simp only [List.mem_cons, List.not_mem_nil, or_false] at hk
    rcases hk with rfl | rfl
    · simp
    · exact .inr (by have := hl6.out; omega))
  have hszz : Hid (b6 < (((w5.setCell ⟨b6, 0, none⟩ (.int .i64 R1.err)).setCell ⟨b6, 1, none⟩ (.int .i64 R1.gen)).setCell ⟨b6, 2, none⟩ (.int .i64 R1.due)).heap.size) := Nat.lt_of_lt_of_le (Nat.lt_of_lt_of_le hl6.out.2 kl5.size) kr.size
  obtain ⟨y0', y1', y2', y3', y4', y5'⟩ := rp_cells hb65
  clear z0 z1 z2 z3 z4 z5 z6 z7 z8 z9 cS hRC R5 frp5 frq5 kl5 hbx hbr hb6 hb65 kr
  go_upto_region 18 with fail
  clear y0' y1' y2' y3' y4' y5'
  generalize ((w5.setCell ⟨b6, 0, none⟩ (.int .i64 R1.err)).setCell ⟨b6, 1, none⟩ (.int .i64 R1.gen)).setCell ⟨b6, 2, none⟩ (.int .i64 R1.due) = wz at *
  skip
  have lz : LX wz w.heap.size b6 (⟨1, oclient, oreq, oid, ogen, oocc, odue, ostamp, oepoch, ocron⟩ : OpN) R1 := ⟨hbxz, hb6z⟩
  have hne1 : w.heap.size + 1 ≠ r := by omega
  have hne2 : b6 ≠ r := by have := hl6.out; omega
  have hne3 : w.heap.size ≠ r := by omega
  have hkl2 : s.K.length ≤ 1000 := RZ.out.lk
  have hrz := RZ.out.rlt
  have bA : Below wz.heap.size wz (wz.alloc (.cells #[] 50)).drew := ((Below.refl _ _).alloc (Nat.le_refl _) _).drew
  have bAC : Below wz.heap.size wz ((wz.alloc (.cells #[] 50)).alloc (Obj.cells #[.int .i64 oclient, .int .i64 oreq, .int .i64 R1.err, .int .i64 R1.gen, .int .i64 R1.due] 50)).drew := (((Below.refl _ _).alloc (Nat.le_refl _) _).alloc (by simp) _).drew
  have bCA : Below wz.heap.size wz ((wz.alloc (Obj.cells #[.int .i64 oclient, .int .i64 oreq, .int .i64 R1.err, .int .i64 R1.gen, .int .i64 R1.due] 50)).alloc (.cells #[] 50)).drew := (((Below.refl _ _).alloc (Nat.le_refl _) _).alloc (by simp) _).drew
  have oA : (wz.alloc (.cells #[] 50)).drew.ownsRow wz.heap.size 50 5 (.slice (some ⟨wz.heap.size, 0, none⟩) 0 0) 0 [] := World.ownsRow_made wz #[] 0 (Nat.le_refl _) (by unfold maxLen; omega) rfl
  have oAC : ((wz.alloc (.cells #[] 50)).alloc (Obj.cells #[.int .i64 oclient, .int .i64 oreq, .int .i64 R1.err, .int .i64 R1.gen, .int .i64 R1.due] 50)).drew.ownsRow wz.heap.size 50 5 (.slice (some ⟨wz.heap.size, 0, none⟩) 0 0) 0 [] := World.ownsRow.alloc oA (Obj.cells #[.int .i64 oclient, .int .i64 oreq, .int .i64 R1.err, .int .i64 R1.gen, .int .i64 R1.due] 50)
  have oCA : ((wz.alloc (Obj.cells #[.int .i64 oclient, .int .i64 oreq, .int .i64 R1.err, .int .i64 R1.gen, .int .i64 R1.due] 50)).alloc (.cells #[] 50)).drew.ownsRow wz.heap.size 50 5 (.slice (some ⟨wz.heap.size + 1, 0, none⟩) 0 0) 0 [] := by
    have := World.ownsRow_made (size := 5) (e := 50) (base := wz.heap.size) (wz.alloc (Obj.cells #[.int .i64 oclient, .int .i64 oreq, .int .i64 R1.err, .int .i64 R1.gen, .int .i64 R1.due] 50)) #[] 0 (by simp) (by unfold maxLen; omega) rfl
    rw [World.size_alloc] at this
    exact this
  have b0 : Below wz.heap.size wz wz.drew := (Below.refl _ _).drew
  have bC : Below wz.heap.size wz (wz.alloc (Obj.cells #[.int .i64 oclient, .int .i64 oreq, .int .i64 R1.err, .int .i64 R1.gen, .int .i64 R1.due] 50)).drew := ((Below.refl _ _).alloc (Nat.le_refl _) _).drew
  have l0 := lz.below b0
  have lA := lz.below bA
  have lC := lz.below bC
  have lAC := lz.below bAC
  have lCA := lz.below bCA
  have e0 : wz.drew.cell? ⟨r, 3, none⟩ = some (.slice qz s.K.length cqz) := (RZ.out.below b0).c3
  have eA : (wz.alloc (.cells #[] 50)).drew.cell? ⟨r, 3, none⟩ = some (.slice qz s.K.length cqz) := (RZ.out.below bA).c3
  have eC : (wz.alloc (Obj.cells #[.int .i64 oclient, .int .i64 oreq, .int .i64 R1.err, .int .i64 R1.gen, .int .i64 R1.due] 50)).drew.cell? ⟨r, 3, none⟩ = some (.slice qz s.K.length cqz) := (RZ.out.below bC).c3
  have eAC : ((wz.alloc (.cells #[] 50)).alloc (Obj.cells #[.int .i64 oclient, .int .i64 oreq, .int .i64 R1.err, .int .i64 R1.gen, .int .i64 R1.due] 50)).drew.cell? ⟨r, 3, none⟩ = some (.slice qz s.K.length cqz) := (RZ.out.below bAC).c3
  have eCA : ((wz.alloc (Obj.cells #[.int .i64 oclient, .int .i64 oreq, .int .i64 R1.err, .int .i64 R1.gen, .int .i64 R1.due] 50)).alloc (.cells #[] 50)).drew.cell? ⟨r, 3, none⟩ = some (.slice qz s.K.length cqz) := (RZ.out.below bCA).c3
  have kA := RZ.out.kow.below bA
  have kAC := RZ.out.kow.below bAC
  have kCA := RZ.out.kow.below bCA
  have hAC : ((wz.alloc (.cells #[] 50)).alloc (Obj.cells #[.int .i64 oclient, .int .i64 oreq, .int .i64 R1.err, .int .i64 R1.gen, .int .i64 R1.due] 50)).drew.heap[wz.heap.size + 1]? = some (Obj.cells #[.int .i64 oclient, .int .i64 oreq, .int .i64 R1.err, .int .i64 R1.gen, .int .i64 R1.due] 50) := by
    have := Go.heap_alloc_new (wz.alloc (.cells #[] 50)) (Obj.cells #[.int .i64 oclient, .int .i64 oreq, .int .i64 R1.err, .int .i64 R1.gen, .int .i64 R1.due] 50)
    rw [World.size_alloc] at this
    exact this
  have hCA : ((wz.alloc (Obj.cells #[.int .i64 oclient, .int .i64 oreq, .int .i64 R1.err, .int .i64 R1.gen, .int .i64 R1.due] 50)).alloc (.cells #[] 50)).drew.heap[wz.heap.size]? = some (Obj.cells #[.int .i64 oclient, .int .i64 oreq, .int .i64 R1.err, .int .i64 R1.gen, .int .i64 R1.due] 50) := (alloc_old (by simp)).trans (Go.heap_alloc_new wz _)
  have hPA := Lib.hid (kcopy (K := s.K) oA kA hkl2 bA.size)
  have hPAC := Lib.hid (kcopy (K := s.K) oAC kAC hkl2 bAC.size)
  have hPCA := Lib.hid (kcopy (K := s.K) oCA kCA hkl2 bCA.size)
  have hE : Hid (∀ w6 p6 c6, World.ownsRow w6 wz.heap.size 50 5 (.slice p6 (s.K.length + 1) c6) (s.K.length + 1) (flatW encK (s.K ++ [(⟨oclient, oreq, R1⟩ : Kn)])) → Below wz.heap.size wz w6 → KEnd base w r p q (w6.setCell ⟨r, 3, none⟩ (.slice p6 (s.K.length + 1) c6)) b6 R1 { (⟨ra, ga, Ta, s.K⟩ : St) with K := s.K ++ [(⟨oclient, oreq, R1⟩ : Kn)] }) :=
    fun w6 p6 c6 o6 bz6 => know_end h RZ.out kz.out frp.out ⟨hl6.out.1, hszz.out⟩ hbrz hb6z (by show s.K.length < 1000; omega) o6 bz6
  have hF6 : Hid (∀ w6, Below wz.heap.size wz w6 → w6.cell? ⟨r, 3, none⟩ = some (.slice qz s.K.length cqz) ∧ w6.frozen? ⟨r, 3, none⟩ = false) := fun w6 k => ⟨(RZ.out.below k).c3, (RZ.out.below k).fz 3⟩
  clear oA oAC oCA kA kAC kCA
  go_upto_region 19 with fail
  clear h RZ kz frp frq hbrz hb6z hbxz hszz hlk hlT hrl hlki hlTi hfew hd0 hd1 hd2
  refine wp_region_noPanic ?_
  refine wp_region_held_drew (S := fun w' => LX w' w.heap.size b6 (⟨1, oclient, oreq, oid, ogen, oocc, odue, ostamp, oepoch, ocron⟩ : OpN) R1 ∧ w'.cell? ⟨w.heap.size, 1, none⟩ = some (.int .i64 oclient) ∧ w'.cell? ⟨w.heap.size, 2, none⟩ = some (.int .i64 oreq) ∧ w'.cell? ⟨b6, 0, none⟩ = some (.int .i64 R1.err) ∧ w'.cell? ⟨b6, 1, none⟩ = some (.int .i64 R1.gen) ∧ w'.cell? ⟨b6, 2, none⟩ = some (.int .i64 R1.due)) (by kernel_rfl) ?hS0 (fun hHeld => ?_)
  case hS0 => ((try dsimp only); exact LX.cells l0)
  refine wpAnyH_take (i := 0) (oi := o19_0) (v := ?v3) rfl (by kernel_rfl) (by kernel_rfl) (by kernel_rfl) (fun _ _ _ h => h) (Or.inl ⟨by rfl, ?y3⟩) (by assumption) ?r3
  case y3 => (intro w hSw; (try dsimp only at hSw); unfold o19_0; go_simp; try with_reducible rfl)
  try simp only [Act.put, List.setIfInBounds_toArray, List.set_cons_zero, List.set_cons_succ]
  refine wpAnyH_take (i := 2) (oi := o19_2) (v := ?v6) rfl (by kernel_rfl) (by kernel_rfl) (by kernel_rfl) (fun _ _ _ h => h) (Or.inl ⟨by rfl, ?y6⟩) (by assumption) ?r6
  case y6 => (intro w hSw; (try dsimp only at hSw); unfold o19_2; go_simp; try with_reducible rfl)
  try simp only [Act.put, List.setIfInBounds_toArray, List.set_cons_zero, List.set_cons_succ]
  refine wpAnyH_take (i := 3) (oi := o19_3) (v := ?v9) rfl (by kernel_rfl) (by kernel_rfl) (by kernel_rfl) (fun _ _ _ h => h) (Or.inl ⟨by rfl, ?y9⟩) (by assumption) ?r9
  case y9 => (intro w hSw; (try dsimp only at hSw); unfold o19_3; go_simp; try with_reducible rfl)
  try simp only [Act.put, List.setIfInBounds_toArray, List.set_cons_zero, List.set_cons_succ]
  refine wpAnyH_take (i := 4) (oi := o19_4) (v := ?v12) rfl (by kernel_rfl) (by kernel_rfl) (by kernel_rfl) (fun _ _ _ h => h) (Or.inl ⟨by rfl, ?y12⟩) (by assumption) ?r12
  case y12 => (intro w hSw; (try dsimp only at hSw); unfold o19_4; go_simp; try with_reducible rfl)
  try simp only [Act.put, List.setIfInBounds_toArray, List.set_cons_zero, List.set_cons_succ]
  refine wpAnyH_take (i := 7) (oi := o19_7) (v := ?v15) rfl (by kernel_rfl) (by kernel_rfl) (by kernel_rfl) (fun _ _ _ h => h) (Or.inl ⟨by rfl, ?y15⟩) (by assumption) ?r15
  case y15 => (intro w hSw; (try dsimp only at hSw); unfold o19_7; go_simp; try with_reducible rfl)
  try simp only [Act.put, List.setIfInBounds_toArray, List.set_cons_zero, List.set_cons_succ]
  refine wpAnyH_take (i := 8) (oi := o19_8) (v := ?v18) rfl (by kernel_rfl) (by kernel_rfl) (by kernel_rfl) (fun _ _ _ h => h) (Or.inl ⟨by rfl, ?y18⟩) (by assumption) ?r18
  case y18 => (intro w hSw; (try dsimp only at hSw); unfold o19_8; go_simp; try with_reducible rfl)
  try simp only [Act.put, List.setIfInBounds_toArray, List.set_cons_zero, List.set_cons_succ]
  refine wpAnyH_take (i := 9) (oi := o19_9) (v := ?v21) rfl (by kernel_rfl) (by kernel_rfl) (by kernel_rfl) (fun _ _ _ h => h) (Or.inl ⟨by rfl, ?y21⟩) (by assumption) ?r21
  case y21 => (intro w hSw; (try dsimp only at hSw); unfold o19_9; go_simp; try with_reducible rfl)
  try simp only [Act.put, List.setIfInBounds_toArray, List.set_cons_zero, List.set_cons_succ]
  refine wpAnyH_take (i := 10) (oi := o19_10) (v := ?v24) rfl (by kernel_rfl) (by kernel_rfl) (by kernel_rfl) (fun _ _ _ h => h) (Or.inl ⟨by rfl, ?y24⟩) (by assumption) ?r24
  case y24 => (intro w hSw; (try dsimp only at hSw); unfold o19_10; go_simp; try with_reducible rfl)
  try simp only [Act.put, List.setIfInBounds_toArray, List.set_cons_zero, List.set_cons_succ]
  refine wpAnyH_take (i := 11) (oi := o19_11) (v := ?v27) rfl (by kernel_rfl) (by kernel_rfl) (by kernel_rfl) (fun _ _ _ h => h) (Or.inl ⟨by rfl, ?y27⟩) (by assumption) ?r27
  case y27 => (intro w hSw; (try dsimp only at hSw); unfold o19_11; go_simp; try with_reducible rfl)
  try simp only [Act.put, List.setIfInBounds_toArray, List.set_cons_zero, List.set_cons_succ]
  refine wpAnyH_take (i := 12) (oi := o19_12) (v := ?v30) rfl (by kernel_rfl) (by kernel_rfl) (by kernel_rfl) (fun _ _ _ h => h) (Or.inl ⟨by rfl, ?y30⟩) (by assumption) ?r30
  case y30 => (intro w hSw; (try dsimp only at hSw); unfold o19_12; go_simp; try with_reducible rfl)
  try simp only [Act.put, List.setIfInBounds_toArray, List.set_cons_zero, List.set_cons_succ]
  refine wpAnyH_ready (rs := [1, 5, 13]) (by kernel_rfl) (by simp) ?_
  refine AllReadyH.cons (o := o19_1) rfl (fun K hK => ?_) ?_
  · clear hHeld
    unfold o19_1
    go_simp
    refine hK.out _ _ ?hS38 (fun hHeld => ?_)
    case hS38 => ((try dsimp only); exact LX.cells lA)
    clear hK K
    try simp only [Act.put, List.setIfInBounds_toArray, List.set_cons_zero, List.set_cons_succ]
    refine wpAnyH_ready (rs := [5, 13]) (by kernel_rfl) (by simp) ?_
    refine AllReadyH.cons (o := o19_5) rfl (fun K hK => ?_) ?_
    · clear hHeld
      unfold o19_5
      go_simp
      refine hK.out _ _ ?hS47 (fun hHeld => ?_)
      case hS47 => ((try dsimp only); exact LX.cells lA)
      clear hK K
      try simp only [Act.put, List.setIfInBounds_toArray, List.set_cons_zero, List.set_cons_succ]
      refine wpAnyH_ready (rs := [6, 13]) (by kernel_rfl) (by simp) ?_
      refine AllReadyH.cons (o := o19_6) rfl (fun K hK => ?_) ?_
      · clear hHeld
        unfold o19_6
        refine step_append_w (by with_reducible rfl) (by rfl) _ _ 45 45 (by rfl) _ _ (by rfl) (by rfl) hPA.out ?_
        rintro v3 w3 ⟨g3, c3, rfl, o3, hg3, b3⟩
        have l3 := lA.below b3
        have bz3 := bA.trans (b3.mono bA.size)
        have l3b := l3.below ((Below.refl w3.heap.size w3).alloc (Nat.le_refl _) (Obj.cells #[.int .i64 oclient, .int .i64 oreq, .int .i64 R1.err, .int .i64 R1.gen, .int .i64 R1.due] 50))
        have hbY := bz3.alloc bz3.size (Obj.cells #[.int .i64 oclient, .int .i64 oreq, .int .i64 R1.err, .int .i64 R1.gen, .int .i64 R1.due] 50)
        have hP2 := Lib.hid (kmore (k := (⟨oclient, oreq, R1⟩ : Kn)) rfl (World.ownsRow.alloc o3 (Obj.cells #[.int .i64 oclient, .int .i64 oreq, .int .i64 R1.err, .int .i64 R1.gen, .int .i64 R1.due] 50)) (Go.heap_alloc_new w3 (Obj.cells #[.int .i64 oclient, .int .i64 oreq, .int .i64 R1.err, .int .i64 R1.gen, .int .i64 R1.due] 50)) hkl2 hbY.size)
        refine hK.out _ _ ?hS62 (fun hHeld => ?_)
        case hS62 => ((try dsimp only); exact LX.cells l3)
        clear hK K
        try simp only [Act.put, List.setIfInBounds_toArray, List.set_cons_zero, List.set_cons_succ]
        refine wpAnyH_ready (rs := [13]) (by kernel_rfl) (by simp) ?_
        refine AllReadyH.cons (o := o19_13) rfl (fun K hK => ?_) ?_
        · clear hHeld
          unfold o19_13
          go_simp
          refine hK.out _ _ ?hS71 (fun hHeld => ?_)
          case hS71 => ((try dsimp only); exact LX.cells l3b)
          clear hK K
          try simp only [Act.put, List.setIfInBounds_toArray, List.set_cons_zero, List.set_cons_succ]
          refine wpAnyH_ready (rs := [14]) (by kernel_rfl) (by simp) ?_
          refine AllReadyH.cons (o := o19_14) rfl (fun K hK => ?_) ?_
          · clear hHeld
            unfold o19_14
            refine step_append_w (by with_reducible rfl) (by rfl) _ _ 45 45 (by rfl) _ _ (by rfl) (by rfl) hP2.out ?_
            rintro v6 w6 ⟨p6, c6, rfl, o6, b6'⟩
            have bz6 := Lib.hid (hbY.trans b6')
            replace o6 := Lib.hid o6
            have l6 := lz.below bz6.out
            obtain ⟨c6', f6⟩ := hF6.out w6 bz6.out
            refine hK.out _ _ ?hS85 (fun hHeld => ?_)
            case hS85 => ((try dsimp only); exact LX.cells l6)
            clear hK K
            try simp only [Act.put, List.setIfInBounds_toArray, List.set_cons_zero, List.set_cons_succ]
            refine wpAnyH_take (i := 15) (oi := o19_15) (v := ?v89) rfl (by kernel_rfl) (by kernel_rfl) (by kernel_rfl) (fun _ _ _ h => h) (Or.inl ⟨by rfl, ?y89⟩) (by assumption) ?r89
            case y89 => (intro w hSw; (try dsimp only at hSw); unfold o19_15; go_simp; try with_reducible rfl)
            try simp only [Act.put, List.setIfInBounds_toArray, List.set_cons_zero, List.set_cons_succ]
            refine wpAnyH_take (i := 16) (oi := o19_16) (v := ?v92) rfl (by kernel_rfl) (by kernel_rfl) (by kernel_rfl) (fun _ _ _ h => h) (Or.inl ⟨by rfl, ?y92⟩) (by assumption) ?r92
            case y92 => (intro w hSw; (try dsimp only at hSw); unfold o19_16; go_simp; try with_reducible rfl)
            try simp only [Act.put, List.setIfInBounds_toArray, List.set_cons_zero, List.set_cons_succ]
            refine wpAnyH_ready (rs := [17]) (by kernel_rfl) (by simp) ?_
            refine AllReadyH.cons (o := o19_17) rfl (fun K hK => ?_) ?_
            · clear hHeld
              unfold o19_17
              go_simp
              refine hK.out _ _ ?hS100 (fun hHeld => ?_)
              case hS100 => ((try dsimp only); exact LX.cells (l6.set _ _ hne3 hne2))
              clear hK K
              try simp only [Act.put, List.setIfInBounds_toArray, List.set_cons_zero, List.set_cons_succ]
              refine wpAnyH_done (by kernel_rfl) ?_ _
              refine NoPanic.normal ?_
              clear hHeld
              obtain ⟨hbr9, hb69, hfin⟩ := hE.out _ _ _ o6.out bz6.out
              replace hfin := Lib.hid hfin
              clear hE hF6 o6 bz6 l6 f6 c6' l3 hbY
              generalize w6.setCell ⟨r, 3, none⟩ (.slice p6 (s.K.length + 1) c6) = w9 at *
              obtain ⟨y0', y1', y2', y3', y4', y5'⟩ := rp_cells hbr9
              obtain ⟨x0', x1', x2', x3', x4', x5'⟩ := rp_cells hb69
              clear hbr9 hb69
              go_wp2_with fail
              refine bodyPost_ret (v := rpV R1) ?_ rfl ?_
              · rw [results_cellA rfl]
                go_simp
              · exact ⟨rfl, hfin.out⟩
            exact AllReadyH.nil
          exact AllReadyH.nil
        exact AllReadyH.nil
      refine AllReadyH.cons (o := o19_13) rfl (fun K hK => ?_) ?_
      · clear hHeld
        unfold o19_13
        go_simp
        refine hK.out _ _ ?hS126 (fun hHeld => ?_)
        case hS126 => ((try dsimp only); exact LX.cells lAC)
        clear hK K
        try simp only [Act.put, List.setIfInBounds_toArray, List.set_cons_zero, List.set_cons_succ]
        refine wpAnyH_ready (rs := [6]) (by kernel_rfl) (by simp) ?_
        refine AllReadyH.cons (o := o19_6) rfl (fun K hK => ?_) ?_
        · clear hHeld
          unfold o19_6
          refine step_append_w (by with_reducible rfl) (by rfl) _ _ 45 45 (by rfl) _ _ (by rfl) (by rfl) hPAC.out ?_
          rintro v3 w3 ⟨g3, c3, rfl, o3, hg3, b3⟩
          have l3 := lAC.below b3
          have hbY := bAC.trans (b3.mono bAC.size)
          have hP2 := Lib.hid (kmore (k := (⟨oclient, oreq, R1⟩ : Kn)) rfl o3 ((b3.block _ (lt_in hAC)).trans hAC) hkl2 hbY.size)
          refine hK.out _ _ ?hS139 (fun hHeld => ?_)
          case hS139 => ((try dsimp only); exact LX.cells l3)
          clear hK K
          try simp only [Act.put, List.setIfInBounds_toArray, List.set_cons_zero, List.set_cons_succ]
          refine wpAnyH_ready (rs := [14]) (by kernel_rfl) (by simp) ?_
          refine AllReadyH.cons (o := o19_14) rfl (fun K hK => ?_) ?_
          · clear hHeld
            unfold o19_14
            refine step_append_w (by with_reducible rfl) (by rfl) _ _ 45 45 (by rfl) _ _ (by rfl) (by rfl) hP2.out ?_
            rintro v6 w6 ⟨p6, c6, rfl, o6, b6'⟩
            have bz6 := Lib.hid (hbY.trans b6')
            replace o6 := Lib.hid o6
            have l6 := lz.below bz6.out
            obtain ⟨c6', f6⟩ := hF6.out w6 bz6.out
            refine hK.out _ _ ?hS153 (fun hHeld => ?_)
            case hS153 => ((try dsimp only); exact LX.cells l6)
            clear hK K
            try simp only [Act.put, List.setIfInBounds_toArray, List.set_cons_zero, List.set_cons_succ]
            refine wpAnyH_take (i := 15) (oi := o19_15) (v := ?v157) rfl (by kernel_rfl) (by kernel_rfl) (by kernel_rfl) (fun _ _ _ h => h) (Or.inl ⟨by rfl, ?y157⟩) (by assumption) ?r157
            case y157 => (intro w hSw; (try dsimp only at hSw); unfold o19_15; go_simp; try with_reducible rfl)
            try simp only [Act.put, List.setIfInBounds_toArray, List.set_cons_zero, List.set_cons_succ]
            refine wpAnyH_take (i := 16) (oi := o19_16) (v := ?v160) rfl (by kernel_rfl) (by kernel_rfl) (by kernel_rfl) (fun _ _ _ h => h) (Or.inl ⟨by rfl, ?y160⟩) (by assumption) ?r160
            case y160 => (intro w hSw; (try dsimp only at hSw); unfold o19_16; go_simp; try with_reducible rfl)
            try simp only [Act.put, List.setIfInBounds_toArray, List.set_cons_zero, List.set_cons_succ]
            refine wpAnyH_ready (rs := [17]) (by kernel_rfl) (by simp) ?_
            refine AllReadyH.cons (o := o19_17) rfl (fun K hK => ?_) ?_
            · clear hHeld
              unfold o19_17
              go_simp
              refine hK.out _ _ ?hS168 (fun hHeld => ?_)
              case hS168 => ((try dsimp only); exact LX.cells (l6.set _ _ hne3 hne2))
              clear hK K
              try simp only [Act.put, List.setIfInBounds_toArray, List.set_cons_zero, List.set_cons_succ]
              refine wpAnyH_done (by kernel_rfl) ?_ _
              refine NoPanic.normal ?_
              clear hHeld
              obtain ⟨hbr9, hb69, hfin⟩ := hE.out _ _ _ o6.out bz6.out
              replace hfin := Lib.hid hfin
              clear hE hF6 o6 bz6 l6 f6 c6' l3 hbY
              generalize w6.setCell ⟨r, 3, none⟩ (.slice p6 (s.K.length + 1) c6) = w9 at *
              obtain ⟨y0', y1', y2', y3', y4', y5'⟩ := rp_cells hbr9
              obtain ⟨x0', x1', x2', x3', x4', x5'⟩ := rp_cells hb69
              clear hbr9 hb69
              go_wp2_with fail
              refine bodyPost_ret (v := rpV R1) ?_ rfl ?_
              · rw [results_cellA rfl]
                go_simp
              · exact ⟨rfl, hfin.out⟩
            exact AllReadyH.nil
          exact AllReadyH.nil
        exact AllReadyH.nil
      exact AllReadyH.nil
    refine AllReadyH.cons (o := o19_13) rfl (fun K hK => ?_) ?_
    · clear hHeld
      unfold o19_13
      go_simp
      refine hK.out _ _ ?hS195 (fun hHeld => ?_)
      case hS195 => ((try dsimp only); exact LX.cells lAC)
      clear hK K
      try simp only [Act.put, List.setIfInBounds_toArray, List.set_cons_zero, List.set_cons_succ]
      refine wpAnyH_ready (rs := [5]) (by kernel_rfl) (by simp) ?_
      refine AllReadyH.cons (o := o19_5) rfl (fun K hK => ?_) ?_
      · clear hHeld
        unfold o19_5
        go_simp
        refine hK.out _ _ ?hS204 (fun hHeld => ?_)
        case hS204 => ((try dsimp only); exact LX.cells lAC)
        clear hK K
        try simp only [Act.put, List.setIfInBounds_toArray, List.set_cons_zero, List.set_cons_succ]
        refine wpAnyH_ready (rs := [6]) (by kernel_rfl) (by simp) ?_
        refine AllReadyH.cons (o := o19_6) rfl (fun K hK => ?_) ?_
        · clear hHeld
          unfold o19_6
          refine step_append_w (by with_reducible rfl) (by rfl) _ _ 45 45 (by rfl) _ _ (by rfl) (by rfl) hPAC.out ?_
          rintro v3 w3 ⟨g3, c3, rfl, o3, hg3, b3⟩
          have l3 := lAC.below b3
          have hbY := bAC.trans (b3.mono bAC.size)
          have hP2 := Lib.hid (kmore (k := (⟨oclient, oreq, R1⟩ : Kn)) rfl o3 ((b3.block _ (lt_in hAC)).trans hAC) hkl2 hbY.size)
          refine hK.out _ _ ?hS217 (fun hHeld => ?_)
          case hS217 => ((try dsimp only); exact LX.cells l3)
          clear hK K
          try simp only [Act.put, List.setIfInBounds_toArray, List.set_cons_zero, List.set_cons_succ]
          refine wpAnyH_ready (rs := [14]) (by kernel_rfl) (by simp) ?_
          refine AllReadyH.cons (o := o19_14) rfl (fun K hK => ?_) ?_
          · clear hHeld
            unfold o19_14
            refine step_append_w (by with_reducible rfl) (by rfl) _ _ 45 45 (by rfl) _ _ (by rfl) (by rfl) hP2.out ?_
            rintro v6 w6 ⟨p6, c6, rfl, o6, b6'⟩
            have bz6 := Lib.hid (hbY.trans b6')
            replace o6 := Lib.hid o6
            have l6 := lz.below bz6.out
            obtain ⟨c6', f6⟩ := hF6.out w6 bz6.out
            refine hK.out _ _ ?hS231 (fun hHeld => ?_)
            case hS231 => ((try dsimp only); exact LX.cells l6)
            clear hK K
            try simp only [Act.put, List.setIfInBounds_toArray, List.set_cons_zero, List.set_cons_succ]
            refine wpAnyH_take (i := 15) (oi := o19_15) (v := ?v235) rfl (by kernel_rfl) (by kernel_rfl) (by kernel_rfl) (fun _ _ _ h => h) (Or.inl ⟨by rfl, ?y235⟩) (by assumption) ?r235
            case y235 => (intro w hSw; (try dsimp only at hSw); unfold o19_15; go_simp; try with_reducible rfl)
            try simp only [Act.put, List.setIfInBounds_toArray, List.set_cons_zero, List.set_cons_succ]
            refine wpAnyH_take (i := 16) (oi := o19_16) (v := ?v238) rfl (by kernel_rfl) (by kernel_rfl) (by kernel_rfl) (fun _ _ _ h => h) (Or.inl ⟨by rfl, ?y238⟩) (by assumption) ?r238
            case y238 => (intro w hSw; (try dsimp only at hSw); unfold o19_16; go_simp; try with_reducible rfl)
            try simp only [Act.put, List.setIfInBounds_toArray, List.set_cons_zero, List.set_cons_succ]
            refine wpAnyH_ready (rs := [17]) (by kernel_rfl) (by simp) ?_
            refine AllReadyH.cons (o := o19_17) rfl (fun K hK => ?_) ?_
            · clear hHeld
              unfold o19_17
              go_simp
              refine hK.out _ _ ?hS246 (fun hHeld => ?_)
              case hS246 => ((try dsimp only); exact LX.cells (l6.set _ _ hne3 hne2))
              clear hK K
              try simp only [Act.put, List.setIfInBounds_toArray, List.set_cons_zero, List.set_cons_succ]
              refine wpAnyH_done (by kernel_rfl) ?_ _
              refine NoPanic.normal ?_
              clear hHeld
              obtain ⟨hbr9, hb69, hfin⟩ := hE.out _ _ _ o6.out bz6.out
              replace hfin := Lib.hid hfin
              clear hE hF6 o6 bz6 l6 f6 c6' l3 hbY
              generalize w6.setCell ⟨r, 3, none⟩ (.slice p6 (s.K.length + 1) c6) = w9 at *
              obtain ⟨y0', y1', y2', y3', y4', y5'⟩ := rp_cells hbr9
              obtain ⟨x0', x1', x2', x3', x4', x5'⟩ := rp_cells hb69
              clear hbr9 hb69
              go_wp2_with fail
              refine bodyPost_ret (v := rpV R1) ?_ rfl ?_
              · rw [results_cellA rfl]
                go_simp
              · exact ⟨rfl, hfin.out⟩
            exact AllReadyH.nil
          exact AllReadyH.nil
        exact AllReadyH.nil
      exact AllReadyH.nil
    exact AllReadyH.nil
  refine AllReadyH.cons (o := o19_5) rfl (fun K hK => ?_) ?_
  · clear hHeld
    unfold o19_5
    go_simp
    refine hK.out _ _ ?hS274 (fun hHeld => ?_)
    case hS274 => ((try dsimp only); exact LX.cells l0)
    clear hK K
    try simp only [Act.put, List.setIfInBounds_toArray, List.set_cons_zero, List.set_cons_succ]
    refine wpAnyH_ready (rs := [1, 13]) (by kernel_rfl) (by simp) ?_
    refine AllReadyH.cons (o := o19_1) rfl (fun K hK => ?_) ?_
    · clear hHeld
      unfold o19_1
      go_simp
      refine hK.out _ _ ?hS283 (fun hHeld => ?_)
      case hS283 => ((try dsimp only); exact LX.cells lA)
      clear hK K
      try simp only [Act.put, List.setIfInBounds_toArray, List.set_cons_zero, List.set_cons_succ]
      refine wpAnyH_ready (rs := [6, 13]) (by kernel_rfl) (by simp) ?_
      refine AllReadyH.cons (o := o19_6) rfl (fun K hK => ?_) ?_
      · clear hHeld
        unfold o19_6
        refine step_append_w (by with_reducible rfl) (by rfl) _ _ 45 45 (by rfl) _ _ (by rfl) (by rfl) hPA.out ?_
        rintro v3 w3 ⟨g3, c3, rfl, o3, hg3, b3⟩
        have l3 := lA.below b3
        have bz3 := bA.trans (b3.mono bA.size)
        have l3b := l3.below ((Below.refl w3.heap.size w3).alloc (Nat.le_refl _) (Obj.cells #[.int .i64 oclient, .int .i64 oreq, .int .i64 R1.err, .int .i64 R1.gen, .int .i64 R1.due] 50))
        have hbY := bz3.alloc bz3.size (Obj.cells #[.int .i64 oclient, .int .i64 oreq, .int .i64 R1.err, .int .i64 R1.gen, .int .i64 R1.due] 50)
        have hP2 := Lib.hid (kmore (k := (⟨oclient, oreq, R1⟩ : Kn)) rfl (World.ownsRow.alloc o3 (Obj.cells #[.int .i64 oclient, .int .i64 oreq, .int .i64 R1.err, .int .i64 R1.gen, .int .i64 R1.due] 50)) (Go.heap_alloc_new w3 (Obj.cells #[.int .i64 oclient, .int .i64 oreq, .int .i64 R1.err, .int .i64 R1.gen, .int .i64 R1.due] 50)) hkl2 hbY.size)
        refine hK.out _ _ ?hS298 (fun hHeld => ?_)
        case hS298 => ((try dsimp only); exact LX.cells l3)
        clear hK K
        try simp only [Act.put, List.setIfInBounds_toArray, List.set_cons_zero, List.set_cons_succ]
        refine wpAnyH_ready (rs := [13]) (by kernel_rfl) (by simp) ?_
        refine AllReadyH.cons (o := o19_13) rfl (fun K hK => ?_) ?_
        · clear hHeld
          unfold o19_13
          go_simp
          refine hK.out _ _ ?hS307 (fun hHeld => ?_)
          case hS307 => ((try dsimp only); exact LX.cells l3b)
          clear hK K
          try simp only [Act.put, List.setIfInBounds_toArray, List.set_cons_zero, List.set_cons_succ]
          refine wpAnyH_ready (rs := [14]) (by kernel_rfl) (by simp) ?_
          refine AllReadyH.cons (o := o19_14) rfl (fun K hK => ?_) ?_
          · clear hHeld
            unfold o19_14
            refine step_append_w (by with_reducible rfl) (by rfl) _ _ 45 45 (by rfl) _ _ (by rfl) (by rfl) hP2.out ?_
            rintro v6 w6 ⟨p6, c6, rfl, o6, b6'⟩
            have bz6 := Lib.hid (hbY.trans b6')
            replace o6 := Lib.hid o6
            have l6 := lz.below bz6.out
            obtain ⟨c6', f6⟩ := hF6.out w6 bz6.out
            refine hK.out _ _ ?hS321 (fun hHeld => ?_)
            case hS321 => ((try dsimp only); exact LX.cells l6)
            clear hK K
            try simp only [Act.put, List.setIfInBounds_toArray, List.set_cons_zero, List.set_cons_succ]
            refine wpAnyH_take (i := 15) (oi := o19_15) (v := ?v325) rfl (by kernel_rfl) (by kernel_rfl) (by kernel_rfl) (fun _ _ _ h => h) (Or.inl ⟨by rfl, ?y325⟩) (by assumption) ?r325
            case y325 => (intro w hSw; (try dsimp only at hSw); unfold o19_15; go_simp; try with_reducible rfl)
            try simp only [Act.put, List.setIfInBounds_toArray, List.set_cons_zero, List.set_cons_succ]
            refine wpAnyH_take (i := 16) (oi := o19_16) (v := ?v328) rfl (by kernel_rfl) (by kernel_rfl) (by kernel_rfl) (fun _ _ _ h => h) (Or.inl ⟨by rfl, ?y328⟩) (by assumption) ?r328
            case y328 => (intro w hSw; (try dsimp only at hSw); unfold o19_16; go_simp; try with_reducible rfl)
            try simp only [Act.put, List.setIfInBounds_toArray, List.set_cons_zero, List.set_cons_succ]
            refine wpAnyH_ready (rs := [17]) (by kernel_rfl) (by simp) ?_
            refine AllReadyH.cons (o := o19_17) rfl (fun K hK => ?_) ?_
            · clear hHeld
              unfold o19_17
              go_simp
              refine hK.out _ _ ?hS336 (fun hHeld => ?_)
              case hS336 => ((try dsimp only); exact LX.cells (l6.set _ _ hne3 hne2))
              clear hK K
              try simp only [Act.put, List.setIfInBounds_toArray, List.set_cons_zero, List.set_cons_succ]
              refine wpAnyH_done (by kernel_rfl) ?_ _
              refine NoPanic.normal ?_
              clear hHeld
              obtain ⟨hbr9, hb69, hfin⟩ := hE.out _ _ _ o6.out bz6.out
              replace hfin := Lib.hid hfin
              clear hE hF6 o6 bz6 l6 f6 c6' l3 hbY
              generalize w6.setCell ⟨r, 3, none⟩ (.slice p6 (s.K.length + 1) c6) = w9 at *
              obtain ⟨y0', y1', y2', y3', y4', y5'⟩ := rp_cells hbr9
              obtain ⟨x0', x1', x2', x3', x4', x5'⟩ := rp_cells hb69
              clear hbr9 hb69
              go_wp2_with fail
              refine bodyPost_ret (v := rpV R1) ?_ rfl ?_
              · rw [results_cellA rfl]
                go_simp
              · exact ⟨rfl, hfin.out⟩
            exact AllReadyH.nil
          exact AllReadyH.nil
        exact AllReadyH.nil
      refine AllReadyH.cons (o := o19_13) rfl (fun K hK => ?_) ?_
      · clear hHeld
        unfold o19_13
        go_simp
        refine hK.out _ _ ?hS362 (fun hHeld => ?_)
        case hS362 => ((try dsimp only); exact LX.cells lAC)
        clear hK K
        try simp only [Act.put, List.setIfInBounds_toArray, List.set_cons_zero, List.set_cons_succ]
        refine wpAnyH_ready (rs := [6]) (by kernel_rfl) (by simp) ?_
        refine AllReadyH.cons (o := o19_6) rfl (fun K hK => ?_) ?_
        · clear hHeld
          unfold o19_6
          refine step_append_w (by with_reducible rfl) (by rfl) _ _ 45 45 (by rfl) _ _ (by rfl) (by rfl) hPAC.out ?_
          rintro v3 w3 ⟨g3, c3, rfl, o3, hg3, b3⟩
          have l3 := lAC.below b3
          have hbY := bAC.trans (b3.mono bAC.size)
          have hP2 := Lib.hid (kmore (k := (⟨oclient, oreq, R1⟩ : Kn)) rfl o3 ((b3.block _ (lt_in hAC)).trans hAC) hkl2 hbY.size)
          refine hK.out _ _ ?hS375 (fun hHeld => ?_)
          case hS375 => ((try dsimp only); exact LX.cells l3)
          clear hK K
          try simp only [Act.put, List.setIfInBounds_toArray, List.set_cons_zero, List.set_cons_succ]
          refine wpAnyH_ready (rs := [14]) (by kernel_rfl) (by simp) ?_
          refine AllReadyH.cons (o := o19_14) rfl (fun K hK => ?_) ?_
          · clear hHeld
            unfold o19_14
            refine step_append_w (by with_reducible rfl) (by rfl) _ _ 45 45 (by rfl) _ _ (by rfl) (by rfl) hP2.out ?_
            rintro v6 w6 ⟨p6, c6, rfl, o6, b6'⟩
            have bz6 := Lib.hid (hbY.trans b6')
            replace o6 := Lib.hid o6
            have l6 := lz.below bz6.out
            obtain ⟨c6', f6⟩ := hF6.out w6 bz6.out
            refine hK.out _ _ ?hS389 (fun hHeld => ?_)
            case hS389 => ((try dsimp only); exact LX.cells l6)
            clear hK K
            try simp only [Act.put, List.setIfInBounds_toArray, List.set_cons_zero, List.set_cons_succ]
            refine wpAnyH_take (i := 15) (oi := o19_15) (v := ?v393) rfl (by kernel_rfl) (by kernel_rfl) (by kernel_rfl) (fun _ _ _ h => h) (Or.inl ⟨by rfl, ?y393⟩) (by assumption) ?r393
            case y393 => (intro w hSw; (try dsimp only at hSw); unfold o19_15; go_simp; try with_reducible rfl)
            try simp only [Act.put, List.setIfInBounds_toArray, List.set_cons_zero, List.set_cons_succ]
            refine wpAnyH_take (i := 16) (oi := o19_16) (v := ?v396) rfl (by kernel_rfl) (by kernel_rfl) (by kernel_rfl) (fun _ _ _ h => h) (Or.inl ⟨by rfl, ?y396⟩) (by assumption) ?r396
            case y396 => (intro w hSw; (try dsimp only at hSw); unfold o19_16; go_simp; try with_reducible rfl)
            try simp only [Act.put, List.setIfInBounds_toArray, List.set_cons_zero, List.set_cons_succ]
            refine wpAnyH_ready (rs := [17]) (by kernel_rfl) (by simp) ?_
            refine AllReadyH.cons (o := o19_17) rfl (fun K hK => ?_) ?_
            · clear hHeld
              unfold o19_17
              go_simp
              refine hK.out _ _ ?hS404 (fun hHeld => ?_)
              case hS404 => ((try dsimp only); exact LX.cells (l6.set _ _ hne3 hne2))
              clear hK K
              try simp only [Act.put, List.setIfInBounds_toArray, List.set_cons_zero, List.set_cons_succ]
              refine wpAnyH_done (by kernel_rfl) ?_ _
              refine NoPanic.normal ?_
              clear hHeld
              obtain ⟨hbr9, hb69, hfin⟩ := hE.out _ _ _ o6.out bz6.out
              replace hfin := Lib.hid hfin
              clear hE hF6 o6 bz6 l6 f6 c6' l3 hbY
              generalize w6.setCell ⟨r, 3, none⟩ (.slice p6 (s.K.length + 1) c6) = w9 at *
              obtain ⟨y0', y1', y2', y3', y4', y5'⟩ := rp_cells hbr9
              obtain ⟨x0', x1', x2', x3', x4', x5'⟩ := rp_cells hb69
              clear hbr9 hb69
              go_wp2_with fail
              refine bodyPost_ret (v := rpV R1) ?_ rfl ?_
              · rw [results_cellA rfl]
                go_simp
              · exact ⟨rfl, hfin.out⟩
            exact AllReadyH.nil
          exact AllReadyH.nil
        exact AllReadyH.nil
      exact AllReadyH.nil
    refine AllReadyH.cons (o := o19_13) rfl (fun K hK => ?_) ?_
    · clear hHeld
      unfold o19_13
      go_simp
      refine hK.out _ _ ?hS431 (fun hHeld => ?_)
      case hS431 => ((try dsimp only); exact LX.cells lC)
      clear hK K
      try simp only [Act.put, List.setIfInBounds_toArray, List.set_cons_zero, List.set_cons_succ]
      refine wpAnyH_ready (rs := [1]) (by kernel_rfl) (by simp) ?_
      refine AllReadyH.cons (o := o19_1) rfl (fun K hK => ?_) ?_
      · clear hHeld
        unfold o19_1
        go_simp
        refine hK.out _ _ ?hS440 (fun hHeld => ?_)
        case hS440 => ((try dsimp only); exact LX.cells lCA)
        clear hK K
        try simp only [Act.put, List.setIfInBounds_toArray, List.set_cons_zero, List.set_cons_succ]
        refine wpAnyH_ready (rs := [6]) (by kernel_rfl) (by simp) ?_
        refine AllReadyH.cons (o := o19_6) rfl (fun K hK => ?_) ?_
        · clear hHeld
          unfold o19_6
          refine step_append_w (by with_reducible rfl) (by rfl) _ _ 45 45 (by rfl) _ _ (by rfl) (by rfl) hPCA.out ?_
          rintro v3 w3 ⟨g3, c3, rfl, o3, hg3, b3⟩
          have l3 := lCA.below b3
          have hbY := bCA.trans (b3.mono bCA.size)
          have hP2 := Lib.hid (kmore (k := (⟨oclient, oreq, R1⟩ : Kn)) rfl o3 ((b3.block _ (lt_in hCA)).trans hCA) hkl2 hbY.size)
          refine hK.out _ _ ?hS453 (fun hHeld => ?_)
          case hS453 => ((try dsimp only); exact LX.cells l3)
          clear hK K
          try simp only [Act.put, List.setIfInBounds_toArray, List.set_cons_zero, List.set_cons_succ]
          refine wpAnyH_ready (rs := [14]) (by kernel_rfl) (by simp) ?_
          refine AllReadyH.cons (o := o19_14) rfl (fun K hK => ?_) ?_
          · clear hHeld
            unfold o19_14
            refine step_append_w (by with_reducible rfl) (by rfl) _ _ 45 45 (by rfl) _ _ (by rfl) (by rfl) hP2.out ?_
            rintro v6 w6 ⟨p6, c6, rfl, o6, b6'⟩
            have bz6 := Lib.hid (hbY.trans b6')
            replace o6 := Lib.hid o6
            have l6 := lz.below bz6.out
            obtain ⟨c6', f6⟩ := hF6.out w6 bz6.out
            refine hK.out _ _ ?hS467 (fun hHeld => ?_)
            case hS467 => ((try dsimp only); exact LX.cells l6)
            clear hK K
            try simp only [Act.put, List.setIfInBounds_toArray, List.set_cons_zero, List.set_cons_succ]
            refine wpAnyH_take (i := 15) (oi := o19_15) (v := ?v471) rfl (by kernel_rfl) (by kernel_rfl) (by kernel_rfl) (fun _ _ _ h => h) (Or.inl ⟨by rfl, ?y471⟩) (by assumption) ?r471
            case y471 => (intro w hSw; (try dsimp only at hSw); unfold o19_15; go_simp; try with_reducible rfl)
            try simp only [Act.put, List.setIfInBounds_toArray, List.set_cons_zero, List.set_cons_succ]
            refine wpAnyH_take (i := 16) (oi := o19_16) (v := ?v474) rfl (by kernel_rfl) (by kernel_rfl) (by kernel_rfl) (fun _ _ _ h => h) (Or.inl ⟨by rfl, ?y474⟩) (by assumption) ?r474
            case y474 => (intro w hSw; (try dsimp only at hSw); unfold o19_16; go_simp; try with_reducible rfl)
            try simp only [Act.put, List.setIfInBounds_toArray, List.set_cons_zero, List.set_cons_succ]
            refine wpAnyH_ready (rs := [17]) (by kernel_rfl) (by simp) ?_
            refine AllReadyH.cons (o := o19_17) rfl (fun K hK => ?_) ?_
            · clear hHeld
              unfold o19_17
              go_simp
              refine hK.out _ _ ?hS482 (fun hHeld => ?_)
              case hS482 => ((try dsimp only); exact LX.cells (l6.set _ _ hne3 hne2))
              clear hK K
              try simp only [Act.put, List.setIfInBounds_toArray, List.set_cons_zero, List.set_cons_succ]
              refine wpAnyH_done (by kernel_rfl) ?_ _
              refine NoPanic.normal ?_
              clear hHeld
              obtain ⟨hbr9, hb69, hfin⟩ := hE.out _ _ _ o6.out bz6.out
              replace hfin := Lib.hid hfin
              clear hE hF6 o6 bz6 l6 f6 c6' l3 hbY
              generalize w6.setCell ⟨r, 3, none⟩ (.slice p6 (s.K.length + 1) c6) = w9 at *
              obtain ⟨y0', y1', y2', y3', y4', y5'⟩ := rp_cells hbr9
              obtain ⟨x0', x1', x2', x3', x4', x5'⟩ := rp_cells hb69
              clear hbr9 hb69
              go_wp2_with fail
              refine bodyPost_ret (v := rpV R1) ?_ rfl ?_
              · rw [results_cellA rfl]
                go_simp
              · exact ⟨rfl, hfin.out⟩
            exact AllReadyH.nil
          exact AllReadyH.nil
        exact AllReadyH.nil
      exact AllReadyH.nil
    exact AllReadyH.nil
  refine AllReadyH.cons (o := o19_13) rfl (fun K hK => ?_) ?_
  · clear hHeld
    unfold o19_13
    go_simp
    refine hK.out _ _ ?hS510 (fun hHeld => ?_)
    case hS510 => ((try dsimp only); exact LX.cells lC)
    clear hK K
    try simp only [Act.put, List.setIfInBounds_toArray, List.set_cons_zero, List.set_cons_succ]
    refine wpAnyH_ready (rs := [1, 5]) (by kernel_rfl) (by simp) ?_
    refine AllReadyH.cons (o := o19_1) rfl (fun K hK => ?_) ?_
    · clear hHeld
      unfold o19_1
      go_simp
      refine hK.out _ _ ?hS519 (fun hHeld => ?_)
      case hS519 => ((try dsimp only); exact LX.cells lCA)
      clear hK K
      try simp only [Act.put, List.setIfInBounds_toArray, List.set_cons_zero, List.set_cons_succ]
      refine wpAnyH_ready (rs := [5]) (by kernel_rfl) (by simp) ?_
      refine AllReadyH.cons (o := o19_5) rfl (fun K hK => ?_) ?_
      · clear hHeld
        unfold o19_5
        go_simp
        refine hK.out _ _ ?hS528 (fun hHeld => ?_)
        case hS528 => ((try dsimp only); exact LX.cells lCA)
        clear hK K
        try simp only [Act.put, List.setIfInBounds_toArray, List.set_cons_zero, List.set_cons_succ]
        refine wpAnyH_ready (rs := [6]) (by kernel_rfl) (by simp) ?_
        refine AllReadyH.cons (o := o19_6) rfl (fun K hK => ?_) ?_
        · clear hHeld
          unfold o19_6
          refine step_append_w (by with_reducible rfl) (by rfl) _ _ 45 45 (by rfl) _ _ (by rfl) (by rfl) hPCA.out ?_
          rintro v3 w3 ⟨g3, c3, rfl, o3, hg3, b3⟩
          have l3 := lCA.below b3
          have hbY := bCA.trans (b3.mono bCA.size)
          have hP2 := Lib.hid (kmore (k := (⟨oclient, oreq, R1⟩ : Kn)) rfl o3 ((b3.block _ (lt_in hCA)).trans hCA) hkl2 hbY.size)
          refine hK.out _ _ ?hS541 (fun hHeld => ?_)
          case hS541 => ((try dsimp only); exact LX.cells l3)
          clear hK K
          try simp only [Act.put, List.setIfInBounds_toArray, List.set_cons_zero, List.set_cons_succ]
          refine wpAnyH_ready (rs := [14]) (by kernel_rfl) (by simp) ?_
          refine AllReadyH.cons (o := o19_14) rfl (fun K hK => ?_) ?_
          · clear hHeld
            unfold o19_14
            refine step_append_w (by with_reducible rfl) (by rfl) _ _ 45 45 (by rfl) _ _ (by rfl) (by rfl) hP2.out ?_
            rintro v6 w6 ⟨p6, c6, rfl, o6, b6'⟩
            have bz6 := Lib.hid (hbY.trans b6')
            replace o6 := Lib.hid o6
            have l6 := lz.below bz6.out
            obtain ⟨c6', f6⟩ := hF6.out w6 bz6.out
            refine hK.out _ _ ?hS555 (fun hHeld => ?_)
            case hS555 => ((try dsimp only); exact LX.cells l6)
            clear hK K
            try simp only [Act.put, List.setIfInBounds_toArray, List.set_cons_zero, List.set_cons_succ]
            refine wpAnyH_take (i := 15) (oi := o19_15) (v := ?v559) rfl (by kernel_rfl) (by kernel_rfl) (by kernel_rfl) (fun _ _ _ h => h) (Or.inl ⟨by rfl, ?y559⟩) (by assumption) ?r559
            case y559 => (intro w hSw; (try dsimp only at hSw); unfold o19_15; go_simp; try with_reducible rfl)
            try simp only [Act.put, List.setIfInBounds_toArray, List.set_cons_zero, List.set_cons_succ]
            refine wpAnyH_take (i := 16) (oi := o19_16) (v := ?v562) rfl (by kernel_rfl) (by kernel_rfl) (by kernel_rfl) (fun _ _ _ h => h) (Or.inl ⟨by rfl, ?y562⟩) (by assumption) ?r562
            case y562 => (intro w hSw; (try dsimp only at hSw); unfold o19_16; go_simp; try with_reducible rfl)
            try simp only [Act.put, List.setIfInBounds_toArray, List.set_cons_zero, List.set_cons_succ]
            refine wpAnyH_ready (rs := [17]) (by kernel_rfl) (by simp) ?_
            refine AllReadyH.cons (o := o19_17) rfl (fun K hK => ?_) ?_
            · clear hHeld
              unfold o19_17
              go_simp
              refine hK.out _ _ ?hS570 (fun hHeld => ?_)
              case hS570 => ((try dsimp only); exact LX.cells (l6.set _ _ hne3 hne2))
              clear hK K
              try simp only [Act.put, List.setIfInBounds_toArray, List.set_cons_zero, List.set_cons_succ]
              refine wpAnyH_done (by kernel_rfl) ?_ _
              refine NoPanic.normal ?_
              clear hHeld
              obtain ⟨hbr9, hb69, hfin⟩ := hE.out _ _ _ o6.out bz6.out
              replace hfin := Lib.hid hfin
              clear hE hF6 o6 bz6 l6 f6 c6' l3 hbY
              generalize w6.setCell ⟨r, 3, none⟩ (.slice p6 (s.K.length + 1) c6) = w9 at *
              obtain ⟨y0', y1', y2', y3', y4', y5'⟩ := rp_cells hbr9
              obtain ⟨x0', x1', x2', x3', x4', x5'⟩ := rp_cells hb69
              clear hbr9 hb69
              go_wp2_with fail
              refine bodyPost_ret (v := rpV R1) ?_ rfl ?_
              · rw [results_cellA rfl]
                go_simp
              · exact ⟨rfl, hfin.out⟩
            exact AllReadyH.nil
          exact AllReadyH.nil
        exact AllReadyH.nil
      exact AllReadyH.nil
    refine AllReadyH.cons (o := o19_5) rfl (fun K hK => ?_) ?_
    · clear hHeld
      unfold o19_5
      go_simp
      refine hK.out _ _ ?hS597 (fun hHeld => ?_)
      case hS597 => ((try dsimp only); exact LX.cells lC)
      clear hK K
      try simp only [Act.put, List.setIfInBounds_toArray, List.set_cons_zero, List.set_cons_succ]
      refine wpAnyH_ready (rs := [1]) (by kernel_rfl) (by simp) ?_
      refine AllReadyH.cons (o := o19_1) rfl (fun K hK => ?_) ?_
      · clear hHeld
        unfold o19_1
        go_simp
        refine hK.out _ _ ?hS606 (fun hHeld => ?_)
        case hS606 => ((try dsimp only); exact LX.cells lCA)
        clear hK K
        try simp only [Act.put, List.setIfInBounds_toArray, List.set_cons_zero, List.set_cons_succ]
        refine wpAnyH_ready (rs := [6]) (by kernel_rfl) (by simp) ?_
        refine AllReadyH.cons (o := o19_6) rfl (fun K hK => ?_) ?_
        · clear hHeld
          unfold o19_6
          refine step_append_w (by with_reducible rfl) (by rfl) _ _ 45 45 (by rfl) _ _ (by rfl) (by rfl) hPCA.out ?_
          rintro v3 w3 ⟨g3, c3, rfl, o3, hg3, b3⟩
          have l3 := lCA.below b3
          have hbY := bCA.trans (b3.mono bCA.size)
          have hP2 := Lib.hid (kmore (k := (⟨oclient, oreq, R1⟩ : Kn)) rfl o3 ((b3.block _ (lt_in hCA)).trans hCA) hkl2 hbY.size)
          refine hK.out _ _ ?hS619 (fun hHeld => ?_)
          case hS619 => ((try dsimp only); exact LX.cells l3)
          clear hK K
          try simp only [Act.put, List.setIfInBounds_toArray, List.set_cons_zero, List.set_cons_succ]
          refine wpAnyH_ready (rs := [14]) (by kernel_rfl) (by simp) ?_
          refine AllReadyH.cons (o := o19_14) rfl (fun K hK => ?_) ?_
          · clear hHeld
            unfold o19_14
            refine step_append_w (by with_reducible rfl) (by rfl) _ _ 45 45 (by rfl) _ _ (by rfl) (by rfl) hP2.out ?_
            rintro v6 w6 ⟨p6, c6, rfl, o6, b6'⟩
            have bz6 := Lib.hid (hbY.trans b6')
            replace o6 := Lib.hid o6
            have l6 := lz.below bz6.out
            obtain ⟨c6', f6⟩ := hF6.out w6 bz6.out
            refine hK.out _ _ ?hS633 (fun hHeld => ?_)
            case hS633 => ((try dsimp only); exact LX.cells l6)
            clear hK K
            try simp only [Act.put, List.setIfInBounds_toArray, List.set_cons_zero, List.set_cons_succ]
            refine wpAnyH_take (i := 15) (oi := o19_15) (v := ?v637) rfl (by kernel_rfl) (by kernel_rfl) (by kernel_rfl) (fun _ _ _ h => h) (Or.inl ⟨by rfl, ?y637⟩) (by assumption) ?r637
            case y637 => (intro w hSw; (try dsimp only at hSw); unfold o19_15; go_simp; try with_reducible rfl)
            try simp only [Act.put, List.setIfInBounds_toArray, List.set_cons_zero, List.set_cons_succ]
            refine wpAnyH_take (i := 16) (oi := o19_16) (v := ?v640) rfl (by kernel_rfl) (by kernel_rfl) (by kernel_rfl) (fun _ _ _ h => h) (Or.inl ⟨by rfl, ?y640⟩) (by assumption) ?r640
            case y640 => (intro w hSw; (try dsimp only at hSw); unfold o19_16; go_simp; try with_reducible rfl)
            try simp only [Act.put, List.setIfInBounds_toArray, List.set_cons_zero, List.set_cons_succ]
            refine wpAnyH_ready (rs := [17]) (by kernel_rfl) (by simp) ?_
            refine AllReadyH.cons (o := o19_17) rfl (fun K hK => ?_) ?_
            · clear hHeld
              unfold o19_17
              go_simp
              refine hK.out _ _ ?hS648 (fun hHeld => ?_)
              case hS648 => ((try dsimp only); exact LX.cells (l6.set _ _ hne3 hne2))
              clear hK K
              try simp only [Act.put, List.setIfInBounds_toArray, List.set_cons_zero, List.set_cons_succ]
              refine wpAnyH_done (by kernel_rfl) ?_ _
              refine NoPanic.normal ?_
              clear hHeld
              obtain ⟨hbr9, hb69, hfin⟩ := hE.out _ _ _ o6.out bz6.out
              replace hfin := Lib.hid hfin
              clear hE hF6 o6 bz6 l6 f6 c6' l3 hbY
              generalize w6.setCell ⟨r, 3, none⟩ (.slice p6 (s.K.length + 1) c6) = w9 at *
              obtain ⟨y0', y1', y2', y3', y4', y5'⟩ := rp_cells hbr9
              obtain ⟨x0', x1', x2', x3', x4', x5'⟩ := rp_cells hb69
              clear hbr9 hb69
              go_wp2_with fail
              refine bodyPost_ret (v := rpV R1) ?_ rfl ?_
              · rw [results_cellA rfl]
                go_simp
              · exact ⟨rfl, hfin.out⟩
            exact AllReadyH.nil
          exact AllReadyH.nil
        exact AllReadyH.nil
      exact AllReadyH.nil
    exact AllReadyH.nil
  exact AllReadyH.nil
end
end Go.Proofs.YtiidhcpflplpiaaGreatDoor

/-
  Layer 8: the document's own service: a request of a client that is new, done and remembered (cancelled).
-/
set_option linter.unusedVariables false
namespace Go.Proofs.YtiidhcpflplpiaaGreatDoor
open Go.RowKit Crn Nxt Ste
set_option maxRecDepth 100000
section
variable {base : Nat} {w : World} {r : Nat} {s : St} {p : Option Addr} {cap : Nat} {q : Option Addr} {cq : Nat}
set_option maxHeartbeats 8000000 in
theorem rask_new_cs (h : Rf base w r s p cap q cq) (ok : Ok s) (o : OpN) (hkind : o.kind = 2) (hp : ¬ plK o.client s.K < s.K.length) (hfew : s.K.length < 3) (ht : plT o.id s.T < s.T.length) : Calls Tryz.prog 16 #[.pointer (some ⟨r, 0, none⟩), opV o] w fun e w' => e = .returned (rpV (askN s o).2) ∧ Rg base w r p q w' (askN s o).1 := by
  have k1 : Below w.heap.size w ((w.alloc (opO o)).alloc rp0) := ((Below.refl w.heap.size w).alloc (Nat.le_refl _) (opO o)).alloc (by simp) rp0
  have hbx : ((w.alloc (opO o)).alloc rp0).heap[w.heap.size]? = some (opO o) := (alloc_old (by simp)).trans (Go.heap_alloc_new w (opO o))
  have hbr : ((w.alloc (opO o)).alloc rp0).heap[w.heap.size + 1]? = some rp0 := by
    have := Go.heap_alloc_new (w.alloc (opO o)) rp0
    simpa using this
  have hlt1 : Hid (w.heap.size + 1 < ((w.alloc (opO o)).alloc rp0).heap.size) := by show _ < _; simp
  have hR1 := Lib.hid (h.below k1)
  have ck := Lib.hid (rknown_any hR1.out o.client)
  have hlk := h.lk
  have hlT := h.lt
  have hrl := h.rlt
  have hlki : (s.K.length : Int) ≤ 1000 := by omega
  have hlTi : (s.T.length : Int) ≤ 1000 := by omega
  have hC : changeN s o = ({ s with T := away o.id s.T }, ⟨0, s.T[plT o.id s.T].gen, s.T[plT o.id s.T].due⟩) := by
    unfold changeN cancelN
    rw [if_neg (by rw [hkind]; decide), plT_find, List.getElem?_eq_getElem ht]
  have hA : Hid (askN s o = ({ (changeN s o).1 with K := s.K ++ [⟨o.client, o.req, (changeN s o).2⟩] }, (changeN s o).2)) := by
    show _ = _
    unfold askN
    rw [plK_known, List.getElem?_eq_none (by omega)]
    simp only []
    rw [if_neg (by omega)]
  have hat : atN (plK o.client s.K) s.K.length = -1 := by unfold atN; rw [if_neg hp]
  rw [hat] at ck
  have hd0 : decide ((0 : Int) ≤ (-1 : Int)) = false := by simp
  have hd1 : decide (3 ≤ s.K.length) = false := by simp; omega
  have hd2 : decide ((3 : Int) ≤ (s.K.length : Int)) = false := by simp; omega
  clear hat hp
  have cF := Lib.hid (fun W (hR : Rf base W r s p cap q cq) => rfind_any hR o.id)
  have hatt : atN (plT o.id s.T) s.T.length = ((plT o.id s.T : Nat) : Int) := by unfold atN; rw [if_pos ht]
  rw [hatt] at cF
  have hTat := Lib.hid (fun W (hR : Rf base W r s p cap q cq) => hR.at (plT o.id s.T) ht)
  have haw : s.T.take (plT o.id s.T) ++ s.T.drop (plT o.id s.T + 1) = away o.id s.T := by
    have := away_at ok.up ht
    rw [plT_is ht] at this
    exact this
  have cR := Lib.hid (fun W (hR : Rf base W r s p cap q cq) => raway_any hR (plT o.id s.T) ht)
  rw [haw] at cR
  obtain ⟨gT, hpe⟩ : ∃ g, p = some ⟨g, 0, none⟩ := by obtain ⟨g, e, _⟩ := h.at _ ht; exact ⟨g, e⟩
  subst hpe
  have ht2 : (plT o.id s.T : Int) < (s.T.length : Int) := by omega
  generalize s.T[plT o.id s.T] = tt at *
  generalize plT o.id s.T = kt at *
  have ht0 : decide ((0 : Int) ≤ (kt : Int)) = true := by simp
  have ht0' : (0 : Int) ≤ (kt : Int) := by omega
  have ht1 : decide (kt < s.T.length) = true := by simpa using ht
  obtain ⟨tid, tc, tg, td, tcr⟩ := tt
  simp only [] at hC hTat
  clear hatt haw
  rw [hC] at hA
  generalize askN s o = AS at *
  obtain rfl := hA.out
  obtain ⟨okind, oclient, oreq, oid, ogen, oocc, odue, ostamp, oepoch, ocron⟩ := o
  simp only [opV, opC, opO, rp0] at *
  subst hkind
  clear k1 hA
  replace k1 : Hid (Below w.heap.size w ((w.alloc (.cells #[.int .i64 2, .int .i64 oclient, .int .i64 oreq, .int .i64 oid, .int .i64 ogen, .int .i64 oocc, .int .i64 odue, .int .i64 ostamp, .int .i64 oepoch, .string ocron] 30)).alloc (.cells #[.int .i64 0, .int .i64 0, .int .i64 0] 34))) := ((Below.refl w.heap.size w).alloc (Nat.le_refl _) _).alloc (by simp) _
  generalize hw1 : (w.alloc (.cells #[.int .i64 2, .int .i64 oclient, .int .i64 oreq, .int .i64 oid, .int .i64 ogen, .int .i64 oocc, .int .i64 odue, .int .i64 ostamp, .int .i64 oepoch, .string ocron] 30)).alloc (.cells #[.int .i64 0, .int .i64 0, .int .i64 0] 34) = w1 at *
  obtain ⟨z0, z1, z2, z3, z4, z5, z6, z7, z8, z9⟩ := op_cells (o := ⟨2, oclient, oreq, oid, ogen, oocc, odue, ostamp, oepoch, ocron⟩) hbx
  simp only [] at z0 z1 z2 z3 z4 z5 z6 z7 z8 z9
  have c3 := hR1.out.c3
  have hw1' := Lib.hid hw1
  go_enter Tryz.func16, Tryz.ntmps16
  go_upto_region 4 with fail
  try rw [hw1]
  clear hw1
  go_wp2_with fail
  refine ck.out.mono ?_
  rintro e w4 ⟨rfl, rfl⟩
  clear ck
  go_wp2_with fail
  go_quiet (fail)
  have kA : Below w1.heap.size w1 (w1.drewN nq) := below_dN (Below.refl _ _) nq
  have hRA := Lib.hid (hR1.out.below kA)
  replace hbx := (kA.block w.heap.size (by have := hlt1.out; omega)).trans hbx
  replace hbr := (kA.block (w.heap.size + 1) hlt1.out).trans hbr
  replace k1 : Hid (Below w.heap.size w (w1.drewN nq)) := k1.out.trans (kA.mono k1.out.size)
  replace hlt1 : Hid (w.heap.size + 1 < (w1.drewN nq).heap.size) := Nat.lt_of_lt_of_le hlt1.out kA.size
  clear hR1 kA z0 z1 z2 z3 z4 z5 z6 z7 z8 z9 c3 hw1' 
  generalize w1.drewN nq = w2 at *
  obtain ⟨z0, z1, z2, z3, z4, z5, z6, z7, z8, z9⟩ := op_cells (o := ⟨2, oclient, oreq, oid, ogen, oocc, odue, ostamp, oepoch, ocron⟩) hbx
  simp only [] at z0 z1 z2 z3 z4 z5 z6 z7 z8 z9
  have c3 := hRA.out.c3
  skip
  go_wp2_with fail
  go_quiet (fail)
  have kA : Below w2.heap.size w2 (w2.drewN nq) := below_dN (Below.refl _ _) nq
  have hRB := Lib.hid (hRA.out.below kA)
  replace hbx := (kA.block w.heap.size (by have := hlt1.out; omega)).trans hbx
  replace hbr := (kA.block (w.heap.size + 1) hlt1.out).trans hbr
  replace k1 : Hid (Below w.heap.size w (w2.drewN nq)) := k1.out.trans (kA.mono k1.out.size)
  replace hlt1 : Hid (w.heap.size + 1 < (w2.drewN nq).heap.size) := Nat.lt_of_lt_of_le hlt1.out kA.size
  clear hRA kA z0 z1 z2 z3 z4 z5 z6 z7 z8 z9 c3 
  generalize w2.drewN nq = w3 at *
  obtain ⟨z0, z1, z2, z3, z4, z5, z6, z7, z8, z9⟩ := op_cells (o := ⟨2, oclient, oreq, oid, ogen, oocc, odue, ostamp, oepoch, ocron⟩) hbx
  simp only [] at z0 z1 z2 z3 z4 z5 z6 z7 z8 z9
  have c3 := hRB.out.c3
  go_upto_region 12 with fail
  have kA : Below w3.heap.size w3 (w3.alloc rp6) := (Below.refl _ _).alloc (Nat.le_refl _) _
  have hRC := Lib.hid (hRB.out.below kA)
  replace hbx := (kA.block w.heap.size (by have := hlt1.out; omega)).trans hbx
  replace hbr := (kA.block (w.heap.size + 1) hlt1.out).trans hbr
  replace k1 : Hid (Below w.heap.size w (w3.alloc rp6)) := k1.out.trans (kA.mono k1.out.size)
  have hb6 : (w3.alloc rp6).heap[w3.heap.size]? = some (rpB ⟨6, 0, 0⟩) := Go.heap_alloc_new w3 _
  have hl6 : Hid (w.heap.size + 1 < w3.heap.size ∧ w3.heap.size < (w3.alloc rp6).heap.size) := ⟨hlt1.out, by simp⟩
  clear hRB kA z0 z1 z2 z3 z4 z5 z6 z7 z8 z9 c3
  replace hlt1 := True.intro
  simp only [rp6, rpB] at *
  generalize w3.alloc (.cells #[.int .i64 6, .int .i64 0, .int .i64 0] 34) = w4 at *
  generalize w3.heap.size = b6 at *
  obtain ⟨z0, z1, z2, z3, z4, z5, z6, z7, z8, z9⟩ := op_cells (o := ⟨2, oclient, oreq, oid, ogen, oocc, odue, ostamp, oepoch, ocron⟩) hbx
  simp only [] at z0 z1 z2 z3 z4 z5 z6 z7 z8 z9
  go_wp2_with fail
  refine (cF.out _ hRC.out).mono ?_
  rintro e w5 ⟨rfl, rfl⟩
  clear cF
  have c2 := hRC.out.c2
  obtain ⟨_, e_, hgl2, x0, x1, x2, x3, x4⟩ := hTat.out _ hRC.out
  obtain rfl : gT = _ := by injection e_ with e_; injection e_
  obtain ⟨y0', y1', y2', y3', y4', y5'⟩ := rp_cells hb6
  clear e_
  go_upto_region 16 with fail
  go_still_tail 17, (by kernel_rfl)
  change wpList _ _ _ _ _ w4.drew
  have hdw : Below w4.heap.size w4 w4.drew := below_dN (Below.refl _ _) 1
  have hRD := Lib.hid (hRC.out.below hdw)
  have hb6d := (hdw.block b6 hl6.out.2).trans hb6
  replace k1 : Hid (Below w.heap.size w w4.drew) := k1.out.trans (hdw.mono k1.out.size)
  replace hbx := (hdw.block w.heap.size (by have := hl6.out; omega)).trans hbx
  replace hbr := (hdw.block (w.heap.size + 1) (by have := hl6.out; omega)).trans hbr
  replace hl6 : Hid (w.heap.size + 1 < b6 ∧ b6 < w4.drew.heap.size) := ⟨hl6.out.1, Nat.lt_of_lt_of_le hl6.out.2 hdw.size⟩
  clear hRC hdw hb6 c2 x0 x1 x2 x3 x4 hgl2 hTat y0' y1' y2' y3' y4' y5' z0 z1 z2 z3 z4 z5 z6 z7 z8 z9
  generalize w4.drew = w5 at *
  have hnb : Hid (b6 ≠ gT ∧ b6 ∉ rowOf q ∧ b6 ≠ r) := by
    refine ⟨fun hg => ?_, fun hg => ?_, ?_⟩
    · have := (h.tow.lt (g := gT) (own_row (n := 0) (cap := 0).1 rfl)).2; have := hl6.out; omega
    · have := (h.kow.lt hg).2; have := hl6.out; omega
    · have := hl6.out; omega
  have kr : Kl [b6] w5 (((w5.setCell ⟨b6, 0, none⟩ (.int .i64 0)).setCell ⟨b6, 1, none⟩ (.int .i64 tg)).setCell ⟨b6, 2, none⟩ (.int .i64 td)) := (((Kl.refl _ _).setCell (by simp) _ _).setCell (by simp) _ _).setCell (by simp) _ _
  have RY : Hid (Rf base (((w5.setCell ⟨b6, 0, none⟩ (.int .i64 0)).setCell ⟨b6, 1, none⟩ (.int .i64 tg)).setCell ⟨b6, 2, none⟩ (.int .i64 td)) r s (some ⟨gT, 0, none⟩) cap q cq) := hRD.out.same fun g hg => by
    have hne : g ≠ b6 := by
      rcases hg with rfl | hg | hg
      · exact fun e => hnb.out.2.2 e.symm
      · have := (h.tow.lt hg).2; have := hl6.out; omega
      · exact fun e => hnb.out.2.1 (e ▸ hg)
    exact ((Below.heap_setCell _ _ _ _ hne).trans (Below.heap_setCell _ _ _ _ hne)).trans (Below.heap_setCell _ _ _ _ hne)
  have hbxy := (kr.block w.heap.size (by have := hl6.out; omega) (by have := hl6.out; simp; omega)).trans hbx
  have hbry := (kr.block (w.heap.size + 1) (by have := hl6.out; omega) (by have := hl6.out; simp; omega)).trans hbr
  have hb6y : (((w5.setCell ⟨b6, 0, none⟩ (.int .i64 0)).setCell ⟨b6, 1, none⟩ (.int .i64 tg)).setCell ⟨b6, 2, none⟩ (.int .i64 td)).heap[b6]? = some (rpB ⟨0, tg, td⟩) := by
    rw [heap_setCell_same _ _ _ _ _ _ (heap_setCell_same _ _ _ _ _ _ (heap_setCell_same _ _ _ _ _ _ hb6d))]
    rfl
  have ky : Hid (Kl [r] w (((w5.setCell ⟨b6, 0, none⟩ (.int .i64 0)).setCell ⟨b6, 1, none⟩ (.int .i64 tg)).setCell ⟨b6, 2, none⟩ (.int .i64 td))) := ((Kl.ofBelow (L := [r, b6]) k1.out).trans (kr.mono (fun k hk => by simp only [List.mem_singleton] at hk; subst hk; simp))).mono (fun k hk => by
    simp only [List.mem_cons, List.not_mem_nil, or_false] at hk
    rcases hk with rfl | rfl
    · simp
    · exact .inr (by have := hl6.out; omega))
  have hszy : Hid (b6 < (((w5.setCell ⟨b6, 0, none⟩ (.int .i64 0)).setCell ⟨b6, 1, none⟩ (.int .i64 tg)).setCell ⟨b6, 2, none⟩ (.int .i64 td)).heap.size) := Nat.lt_of_lt_of_le hl6.out.2 kr.size
  obtain ⟨y0', y1', y2', y3', y4', y5'⟩ := rp_cells hb6d
  clear hRD kr hbx hbr hb6d
  go_upto_region 17 with fail
  clear y0' y1' y2' y3' y4' y5'
  generalize ((w5.setCell ⟨b6, 0, none⟩ (.int .i64 0)).setCell ⟨b6, 1, none⟩ (.int .i64 tg)).setCell ⟨b6, 2, none⟩ (.int .i64 td) = wy at *
  go_wp2_with fail
  refine (cR.out _ RY.out).mono ?_
  rintro e wz ⟨rfl, ⟨pz, capz, RZ, frz⟩, klz⟩
  have hbxz := (klz.block w.heap.size (by have := hszy.out; have := hl6.out; omega) (by simp; omega)).trans hbxy
  have hbrz := (klz.block (w.heap.size + 1) (by have := hszy.out; have := hl6.out; omega) (by simp; omega)).trans hbry
  have hb6z := (klz.block b6 hszy.out (by simp [hnb.out.2.2])).trans hb6y
  have kz : Hid (Kl [r] w wz) := ky.out.trans klz
  have hszz : Hid (b6 < wz.heap.size) := Nat.lt_of_lt_of_le hszy.out klz.size
  have frp : Hid (∀ g, g ∈ rowOf pz → g ∈ rowOf (some (⟨gT, 0, none⟩ : Addr)) ∨ w.heap.size + 1 < g) := fun g hg => .inr (by have := frz g hg; have := hszy.out; have := hl6.out; omega)
  have frq : Hid (∀ g, g ∈ rowOf q → g ∈ rowOf q ∨ w.heap.size + 1 < g) := fun g hg => .inl hg
  replace RZ := Lib.hid RZ
  clear cR RY frz klz hbxy hbry hb6y ky hszy
  go_upto_region 18 with fail
  have lz : LX wz w.heap.size b6 (⟨2, oclient, oreq, oid, ogen, oocc, odue, ostamp, oepoch, ocron⟩ : OpN) ⟨0, tg, td⟩ := ⟨hbxz, hb6z⟩
  have hne1 : w.heap.size + 1 ≠ r := by omega
  have hne2 : b6 ≠ r := by have := hl6.out; omega
  have hne3 : w.heap.size ≠ r := by omega
  have hkl2 : s.K.length ≤ 1000 := RZ.out.lk
  have hrz := RZ.out.rlt
  have bA : Below wz.heap.size wz (wz.alloc (.cells #[] 50)).drew := ((Below.refl _ _).alloc (Nat.le_refl _) _).drew
  have bAC : Below wz.heap.size wz ((wz.alloc (.cells #[] 50)).alloc (Obj.cells #[.int .i64 oclient, .int .i64 oreq, .int .i64 0, .int .i64 tg, .int .i64 td] 50)).drew := (((Below.refl _ _).alloc (Nat.le_refl _) _).alloc (by simp) _).drew
  have bCA : Below wz.heap.size wz ((wz.alloc (Obj.cells #[.int .i64 oclient, .int .i64 oreq, .int .i64 0, .int .i64 tg, .int .i64 td] 50)).alloc (.cells #[] 50)).drew := (((Below.refl _ _).alloc (Nat.le_refl _) _).alloc (by simp) _).drew
  have oA : (wz.alloc (.cells #[] 50)).drew.ownsRow wz.heap.size 50 5 (.slice (some ⟨wz.heap.size, 0, none⟩) 0 0) 0 [] := World.ownsRow_made wz #[] 0 (Nat.le_refl _) (by unfold maxLen; omega) rfl
  have oAC : ((wz.alloc (.cells #[] 50)).alloc (Obj.cells #[.int .i64 oclient, .int .i64 oreq, .int .i64 0, .int .i64 tg, .int .i64 td] 50)).drew.ownsRow wz.heap.size 50 5 (.slice (some ⟨wz.heap.size, 0, none⟩) 0 0) 0 [] := World.ownsRow.alloc oA (Obj.cells #[.int .i64 oclient, .int .i64 oreq, .int .i64 0, .int .i64 tg, .int .i64 td] 50)
  have oCA : ((wz.alloc (Obj.cells #[.int .i64 oclient, .int .i64 oreq, .int .i64 0, .int .i64 tg, .int .i64 td] 50)).alloc (.cells #[] 50)).drew.ownsRow wz.heap.size 50 5 (.slice (some ⟨wz.heap.size + 1, 0, none⟩) 0 0) 0 [] := by
    have := World.ownsRow_made (size := 5) (e := 50) (base := wz.heap.size) (wz.alloc (Obj.cells #[.int .i64 oclient, .int .i64 oreq, .int .i64 0, .int .i64 tg, .int .i64 td] 50)) #[] 0 (by simp) (by unfold maxLen; omega) rfl
    rw [World.size_alloc] at this
    exact this
  have b0 : Below wz.heap.size wz wz.drew := (Below.refl _ _).drew
  have bC : Below wz.heap.size wz (wz.alloc (Obj.cells #[.int .i64 oclient, .int .i64 oreq, .int .i64 0, .int .i64 tg, .int .i64 td] 50)).drew := ((Below.refl _ _).alloc (Nat.le_refl _) _).drew
  have l0 := lz.below b0
  have lA := lz.below bA
  have lC := lz.below bC
  have lAC := lz.below bAC
  have lCA := lz.below bCA
  have e0 : wz.drew.cell? ⟨r, 3, none⟩ = some (.slice q s.K.length cq) := (RZ.out.below b0).c3
  have eA : (wz.alloc (.cells #[] 50)).drew.cell? ⟨r, 3, none⟩ = some (.slice q s.K.length cq) := (RZ.out.below bA).c3
  have eC : (wz.alloc (Obj.cells #[.int .i64 oclient, .int .i64 oreq, .int .i64 0, .int .i64 tg, .int .i64 td] 50)).drew.cell? ⟨r, 3, none⟩ = some (.slice q s.K.length cq) := (RZ.out.below bC).c3
  have eAC : ((wz.alloc (.cells #[] 50)).alloc (Obj.cells #[.int .i64 oclient, .int .i64 oreq, .int .i64 0, .int .i64 tg, .int .i64 td] 50)).drew.cell? ⟨r, 3, none⟩ = some (.slice q s.K.length cq) := (RZ.out.below bAC).c3
  have eCA : ((wz.alloc (Obj.cells #[.int .i64 oclient, .int .i64 oreq, .int .i64 0, .int .i64 tg, .int .i64 td] 50)).alloc (.cells #[] 50)).drew.cell? ⟨r, 3, none⟩ = some (.slice q s.K.length cq) := (RZ.out.below bCA).c3
  have kA := RZ.out.kow.below bA
  have kAC := RZ.out.kow.below bAC
  have kCA := RZ.out.kow.below bCA
  have hAC : ((wz.alloc (.cells #[] 50)).alloc (Obj.cells #[.int .i64 oclient, .int .i64 oreq, .int .i64 0, .int .i64 tg, .int .i64 td] 50)).drew.heap[wz.heap.size + 1]? = some (Obj.cells #[.int .i64 oclient, .int .i64 oreq, .int .i64 0, .int .i64 tg, .int .i64 td] 50) := by
    have := Go.heap_alloc_new (wz.alloc (.cells #[] 50)) (Obj.cells #[.int .i64 oclient, .int .i64 oreq, .int .i64 0, .int .i64 tg, .int .i64 td] 50)
    rw [World.size_alloc] at this
    exact this
  have hCA : ((wz.alloc (Obj.cells #[.int .i64 oclient, .int .i64 oreq, .int .i64 0, .int .i64 tg, .int .i64 td] 50)).alloc (.cells #[] 50)).drew.heap[wz.heap.size]? = some (Obj.cells #[.int .i64 oclient, .int .i64 oreq, .int .i64 0, .int .i64 tg, .int .i64 td] 50) := (alloc_old (by simp)).trans (Go.heap_alloc_new wz _)
  have hPA := Lib.hid (kcopy (K := s.K) oA kA hkl2 bA.size)
  have hPAC := Lib.hid (kcopy (K := s.K) oAC kAC hkl2 bAC.size)
  have hPCA := Lib.hid (kcopy (K := s.K) oCA kCA hkl2 bCA.size)
  have hE : Hid (∀ w6 p6 c6, World.ownsRow w6 wz.heap.size 50 5 (.slice p6 (s.K.length + 1) c6) (s.K.length + 1) (flatW encK (s.K ++ [(⟨oclient, oreq, ⟨0, tg, td⟩⟩ : Kn)])) → Below wz.heap.size wz w6 → KEnd base w r (some ⟨gT, 0, none⟩) q (w6.setCell ⟨r, 3, none⟩ (.slice p6 (s.K.length + 1) c6)) b6 ⟨0, tg, td⟩ { ({ s with T := away oid s.T } : St) with K := s.K ++ [(⟨oclient, oreq, ⟨0, tg, td⟩⟩ : Kn)] }) :=
    fun w6 p6 c6 o6 bz6 => know_end h RZ.out kz.out frp.out ⟨hl6.out.1, hszz.out⟩ hbrz hb6z (by show s.K.length < 1000; omega) o6 bz6
  have hF6 : Hid (∀ w6, Below wz.heap.size wz w6 → w6.cell? ⟨r, 3, none⟩ = some (.slice q s.K.length cq) ∧ w6.frozen? ⟨r, 3, none⟩ = false) := fun w6 k => ⟨(RZ.out.below k).c3, (RZ.out.below k).fz 3⟩
  clear oA oAC oCA kA kAC kCA
  go_upto_region 19 with fail
  clear h RZ kz frp frq hbrz hb6z hbxz hszz hlk hlT hrl hlki hlTi hfew hd0 hd1 hd2
  refine wp_region_noPanic ?_
  refine wp_region_held_drew (S := fun w' => LX w' w.heap.size b6 (⟨2, oclient, oreq, oid, ogen, oocc, odue, ostamp, oepoch, ocron⟩ : OpN) ⟨0, tg, td⟩ ∧ w'.cell? ⟨w.heap.size, 1, none⟩ = some (.int .i64 oclient) ∧ w'.cell? ⟨w.heap.size, 2, none⟩ = some (.int .i64 oreq) ∧ w'.cell? ⟨b6, 0, none⟩ = some (.int .i64 0) ∧ w'.cell? ⟨b6, 1, none⟩ = some (.int .i64 tg) ∧ w'.cell? ⟨b6, 2, none⟩ = some (.int .i64 td)) (by kernel_rfl) ?hS0 (fun hHeld => ?_)
  case hS0 => ((try dsimp only); exact LX.cells l0)
  refine wpAnyH_take (i := 0) (oi := o19_0) (v := ?v3) rfl (by kernel_rfl) (by kernel_rfl) (by kernel_rfl) (fun _ _ _ h => h) (Or.inl ⟨by rfl, ?y3⟩) (by assumption) ?r3
  case y3 => (intro w hSw; (try dsimp only at hSw); unfold o19_0; go_simp; try with_reducible rfl)
  try simp only [Act.put, List.setIfInBounds_toArray, List.set_cons_zero, List.set_cons_succ]
  refine wpAnyH_take (i := 2) (oi := o19_2) (v := ?v6) rfl (by kernel_rfl) (by kernel_rfl) (by kernel_rfl) (fun _ _ _ h => h) (Or.inl ⟨by rfl, ?y6⟩) (by assumption) ?r6
  case y6 => (intro w hSw; (try dsimp only at hSw); unfold o19_2; go_simp; try with_reducible rfl)
  try simp only [Act.put, List.setIfInBounds_toArray, List.set_cons_zero, List.set_cons_succ]
  refine wpAnyH_take (i := 3) (oi := o19_3) (v := ?v9) rfl (by kernel_rfl) (by kernel_rfl) (by kernel_rfl) (fun _ _ _ h => h) (Or.inl ⟨by rfl, ?y9⟩) (by assumption) ?r9
  case y9 => (intro w hSw; (try dsimp only at hSw); unfold o19_3; go_simp; try with_reducible rfl)
  try simp only [Act.put, List.setIfInBounds_toArray, List.set_cons_zero, List.set_cons_succ]
  refine wpAnyH_take (i := 4) (oi := o19_4) (v := ?v12) rfl (by kernel_rfl) (by kernel_rfl) (by kernel_rfl) (fun _ _ _ h => h) (Or.inl ⟨by rfl, ?y12⟩) (by assumption) ?r12
  case y12 => (intro w hSw; (try dsimp only at hSw); unfold o19_4; go_simp; try with_reducible rfl)
  try simp only [Act.put, List.setIfInBounds_toArray, List.set_cons_zero, List.set_cons_succ]
  refine wpAnyH_take (i := 7) (oi := o19_7) (v := ?v15) rfl (by kernel_rfl) (by kernel_rfl) (by kernel_rfl) (fun _ _ _ h => h) (Or.inl ⟨by rfl, ?y15⟩) (by assumption) ?r15
  case y15 => (intro w hSw; (try dsimp only at hSw); unfold o19_7; go_simp; try with_reducible rfl)
  try simp only [Act.put, List.setIfInBounds_toArray, List.set_cons_zero, List.set_cons_succ]
  refine wpAnyH_take (i := 8) (oi := o19_8) (v := ?v18) rfl (by kernel_rfl) (by kernel_rfl) (by kernel_rfl) (fun _ _ _ h => h) (Or.inl ⟨by rfl, ?y18⟩) (by assumption) ?r18
  case y18 => (intro w hSw; (try dsimp only at hSw); unfold o19_8; go_simp; try with_reducible rfl)
  try simp only [Act.put, List.setIfInBounds_toArray, List.set_cons_zero, List.set_cons_succ]
  refine wpAnyH_take (i := 9) (oi := o19_9) (v := ?v21) rfl (by kernel_rfl) (by kernel_rfl) (by kernel_rfl) (fun _ _ _ h => h) (Or.inl ⟨by rfl, ?y21⟩) (by assumption) ?r21
  case y21 => (intro w hSw; (try dsimp only at hSw); unfold o19_9; go_simp; try with_reducible rfl)
  try simp only [Act.put, List.setIfInBounds_toArray, List.set_cons_zero, List.set_cons_succ]
  refine wpAnyH_take (i := 10) (oi := o19_10) (v := ?v24) rfl (by kernel_rfl) (by kernel_rfl) (by kernel_rfl) (fun _ _ _ h => h) (Or.inl ⟨by rfl, ?y24⟩) (by assumption) ?r24
  case y24 => (intro w hSw; (try dsimp only at hSw); unfold o19_10; go_simp; try with_reducible rfl)
  try simp only [Act.put, List.setIfInBounds_toArray, List.set_cons_zero, List.set_cons_succ]
  refine wpAnyH_take (i := 11) (oi := o19_11) (v := ?v27) rfl (by kernel_rfl) (by kernel_rfl) (by kernel_rfl) (fun _ _ _ h => h) (Or.inl ⟨by rfl, ?y27⟩) (by assumption) ?r27
  case y27 => (intro w hSw; (try dsimp only at hSw); unfold o19_11; go_simp; try with_reducible rfl)
  try simp only [Act.put, List.setIfInBounds_toArray, List.set_cons_zero, List.set_cons_succ]
  refine wpAnyH_take (i := 12) (oi := o19_12) (v := ?v30) rfl (by kernel_rfl) (by kernel_rfl) (by kernel_rfl) (fun _ _ _ h => h) (Or.inl ⟨by rfl, ?y30⟩) (by assumption) ?r30
  case y30 => (intro w hSw; (try dsimp only at hSw); unfold o19_12; go_simp; try with_reducible rfl)
  try simp only [Act.put, List.setIfInBounds_toArray, List.set_cons_zero, List.set_cons_succ]
  refine wpAnyH_ready (rs := [1, 5, 13]) (by kernel_rfl) (by simp) ?_
  refine AllReadyH.cons (o := o19_1) rfl (fun K hK => ?_) ?_
  · clear hHeld
    unfold o19_1
    go_simp
    refine hK.out _ _ ?hS38 (fun hHeld => ?_)
    case hS38 => ((try dsimp only); exact LX.cells lA)
    clear hK K
    try simp only [Act.put, List.setIfInBounds_toArray, List.set_cons_zero, List.set_cons_succ]
    refine wpAnyH_ready (rs := [5, 13]) (by kernel_rfl) (by simp) ?_
    refine AllReadyH.cons (o := o19_5) rfl (fun K hK => ?_) ?_
    · clear hHeld
      unfold o19_5
      go_simp
      refine hK.out _ _ ?hS47 (fun hHeld => ?_)
      case hS47 => ((try dsimp only); exact LX.cells lA)
      clear hK K
      try simp only [Act.put, List.setIfInBounds_toArray, List.set_cons_zero, List.set_cons_succ]
      refine wpAnyH_ready (rs := [6, 13]) (by kernel_rfl) (by simp) ?_
      refine AllReadyH.cons (o := o19_6) rfl (fun K hK => ?_) ?_
      · clear hHeld
        unfold o19_6
        refine step_append_w (by with_reducible rfl) (by rfl) _ _ 45 45 (by rfl) _ _ (by rfl) (by rfl) hPA.out ?_
        rintro v3 w3 ⟨g3, c3, rfl, o3, hg3, b3⟩
        have l3 := lA.below b3
        have bz3 := bA.trans (b3.mono bA.size)
        have l3b := l3.below ((Below.refl w3.heap.size w3).alloc (Nat.le_refl _) (Obj.cells #[.int .i64 oclient, .int .i64 oreq, .int .i64 0, .int .i64 tg, .int .i64 td] 50))
        have hbY := bz3.alloc bz3.size (Obj.cells #[.int .i64 oclient, .int .i64 oreq, .int .i64 0, .int .i64 tg, .int .i64 td] 50)
        have hP2 := Lib.hid (kmore (k := (⟨oclient, oreq, ⟨0, tg, td⟩⟩ : Kn)) rfl (World.ownsRow.alloc o3 (Obj.cells #[.int .i64 oclient, .int .i64 oreq, .int .i64 0, .int .i64 tg, .int .i64 td] 50)) (Go.heap_alloc_new w3 (Obj.cells #[.int .i64 oclient, .int .i64 oreq, .int .i64 0, .int .i64 tg, .int .i64 td] 50)) hkl2 hbY.size)
        refine hK.out _ _ ?hS62 (fun hHeld => ?_)
        case hS62 => ((try dsimp only); exact LX.cells l3)
        clear hK K
        try simp only [Act.put, List.setIfInBounds_toArray, List.set_cons_zero, List.set_cons_succ]
        refine wpAnyH_ready (rs := [13]) (by kernel_rfl) (by simp) ?_
        refine AllReadyH.cons (o := o19_13) rfl (fun K hK => ?_) ?_
        · clear hHeld
          unfold o19_13
          go_simp
          refine hK.out _ _ ?hS71 (fun hHeld => ?_)
          case hS71 => ((try dsimp only); exact LX.cells l3b)
          clear hK K
          try simp only [Act.put, List.setIfInBounds_toArray, List.set_cons_zero, List.set_cons_succ]
          refine wpAnyH_ready (rs := [14]) (by kernel_rfl) (by simp) ?_
          refine AllReadyH.cons (o := o19_14) rfl (fun K hK => ?_) ?_
          · clear hHeld
            unfold o19_14
            refine step_append_w (by with_reducible rfl) (by rfl) _ _ 45 45 (by rfl) _ _ (by rfl) (by rfl) hP2.out ?_
            rintro v6 w6 ⟨p6, c6, rfl, o6, b6'⟩
            have bz6 := Lib.hid (hbY.trans b6')
            replace o6 := Lib.hid o6
            have l6 := lz.below bz6.out
            obtain ⟨c6', f6⟩ := hF6.out w6 bz6.out
            refine hK.out _ _ ?hS85 (fun hHeld => ?_)
            case hS85 => ((try dsimp only); exact LX.cells l6)
            clear hK K
            try simp only [Act.put, List.setIfInBounds_toArray, List.set_cons_zero, List.set_cons_succ]
            refine wpAnyH_take (i := 15) (oi := o19_15) (v := ?v89) rfl (by kernel_rfl) (by kernel_rfl) (by kernel_rfl) (fun _ _ _ h => h) (Or.inl ⟨by rfl, ?y89⟩) (by assumption) ?r89
            case y89 => (intro w hSw; (try dsimp only at hSw); unfold o19_15; go_simp; try with_reducible rfl)
            try simp only [Act.put, List.setIfInBounds_toArray, List.set_cons_zero, List.set_cons_succ]
            refine wpAnyH_take (i := 16) (oi := o19_16) (v := ?v92) rfl (by kernel_rfl) (by kernel_rfl) (by kernel_rfl) (fun _ _ _ h => h) (Or.inl ⟨by rfl, ?y92⟩) (by assumption) ?r92
            case y92 => (intro w hSw; (try dsimp only at hSw); unfold o19_16; go_simp; try with_reducible rfl)
            try simp only [Act.put, List.setIfInBounds_toArray, List.set_cons_zero, List.set_cons_succ]
            refine wpAnyH_ready (rs := [17]) (by kernel_rfl) (by simp) ?_
            refine AllReadyH.cons (o := o19_17) rfl (fun K hK => ?_) ?_
            · clear hHeld
              unfold o19_17
              go_simp
              refine hK.out _ _ ?hS100 (fun hHeld => ?_)
              case hS100 => ((try dsimp only); exact LX.cells (l6.set _ _ hne3 hne2))
              clear hK K
              try simp only [Act.put, List.setIfInBounds_toArray, List.set_cons_zero, List.set_cons_succ]
              refine wpAnyH_done (by kernel_rfl) ?_ _
              refine NoPanic.normal ?_
              clear hHeld
              obtain ⟨hbr9, hb69, hfin⟩ := hE.out _ _ _ o6.out bz6.out
              replace hfin := Lib.hid hfin
              clear hE hF6 o6 bz6 l6 f6 c6' l3 hbY
              generalize w6.setCell ⟨r, 3, none⟩ (.slice p6 (s.K.length + 1) c6) = w9 at *
              obtain ⟨y0', y1', y2', y3', y4', y5'⟩ := rp_cells hbr9
              obtain ⟨x0', x1', x2', x3', x4', x5'⟩ := rp_cells hb69
              clear hbr9 hb69
              go_wp2_with fail
              refine bodyPost_ret (v := rpV ⟨0, tg, td⟩) ?_ rfl ?_
              · rw [results_cellA rfl]
                go_simp
              · exact ⟨rfl, hfin.out⟩
            exact AllReadyH.nil
          exact AllReadyH.nil
        exact AllReadyH.nil
      refine AllReadyH.cons (o := o19_13) rfl (fun K hK => ?_) ?_
      · clear hHeld
        unfold o19_13
        go_simp
        refine hK.out _ _ ?hS126 (fun hHeld => ?_)
        case hS126 => ((try dsimp only); exact LX.cells lAC)
        clear hK K
        try simp only [Act.put, List.setIfInBounds_toArray, List.set_cons_zero, List.set_cons_succ]
        refine wpAnyH_ready (rs := [6]) (by kernel_rfl) (by simp) ?_
        refine AllReadyH.cons (o := o19_6) rfl (fun K hK => ?_) ?_
        · clear hHeld
          unfold o19_6
          refine step_append_w (by with_reducible rfl) (by rfl) _ _ 45 45 (by rfl) _ _ (by rfl) (by rfl) hPAC.out ?_
          rintro v3 w3 ⟨g3, c3, rfl, o3, hg3, b3⟩
          have l3 := lAC.below b3
          have hbY := bAC.trans (b3.mono bAC.size)
          have hP2 := Lib.hid (kmore (k := (⟨oclient, oreq, ⟨0, tg, td⟩⟩ : Kn)) rfl o3 ((b3.block _ (lt_in hAC)).trans hAC) hkl2 hbY.size)
          refine hK.out _ _ ?hS139 (fun hHeld => ?_)
          case hS139 => ((try dsimp only); exact LX.cells l3)
          clear hK K
          try simp only [Act.put, List.setIfInBounds_toArray, List.set_cons_zero, List.set_cons_succ]
          refine wpAnyH_ready (rs := [14]) (by kernel_rfl) (by simp) ?_
          refine AllReadyH.cons (o := o19_14) rfl (fun K hK => ?_) ?_
          · clear hHeld
            unfold o19_14
            refine step_append_w (by with_reducible rfl) (by rfl) _ _ 45 45 (by rfl) _ _ (by rfl) (by rfl) hP2.out ?_
            rintro v6 w6 ⟨p6, c6, rfl, o6, b6'⟩
            have bz6 := Lib.hid (hbY.trans b6')
            replace o6 := Lib.hid o6
            have l6 := lz.below bz6.out
            obtain ⟨c6', f6⟩ := hF6.out w6 bz6.out
            refine hK.out _ _ ?hS153 (fun hHeld => ?_)
            case hS153 => ((try dsimp only); exact LX.cells l6)
            clear hK K
            try simp only [Act.put, List.setIfInBounds_toArray, List.set_cons_zero, List.set_cons_succ]
            refine wpAnyH_take (i := 15) (oi := o19_15) (v := ?v157) rfl (by kernel_rfl) (by kernel_rfl) (by kernel_rfl) (fun _ _ _ h => h) (Or.inl ⟨by rfl, ?y157⟩) (by assumption) ?r157
            case y157 => (intro w hSw; (try dsimp only at hSw); unfold o19_15; go_simp; try with_reducible rfl)
            try simp only [Act.put, List.setIfInBounds_toArray, List.set_cons_zero, List.set_cons_succ]
            refine wpAnyH_take (i := 16) (oi := o19_16) (v := ?v160) rfl (by kernel_rfl) (by kernel_rfl) (by kernel_rfl) (fun _ _ _ h => h) (Or.inl ⟨by rfl, ?y160⟩) (by assumption) ?r160
            case y160 => (intro w hSw; (try dsimp only at hSw); unfold o19_16; go_simp; try with_reducible rfl)
            try simp only [Act.put, List.setIfInBounds_toArray, List.set_cons_zero, List.set_cons_succ]
            refine wpAnyH_ready (rs := [17]) (by kernel_rfl) (by simp) ?_
            refine AllReadyH.cons (o := o19_17) rfl (fun K hK => ?_) ?_
            · clear hHeld
              unfold o19_17
              go_simp
              refine hK.out _ _ ?hS168 (fun hHeld => ?_)
              case hS168 => ((try dsimp only); exact LX.cells (l6.set _ _ hne3 hne2))
              clear hK K
              try simp only [Act.put, List.setIfInBounds_toArray, List.set_cons_zero, List.set_cons_succ]
              refine wpAnyH_done (by kernel_rfl) ?_ _
              refine NoPanic.normal ?_
              clear hHeld
              obtain ⟨hbr9, hb69, hfin⟩ := hE.out _ _ _ o6.out bz6.out
              replace hfin := Lib.hid hfin
              clear hE hF6 o6 bz6 l6 f6 c6' l3 hbY
              generalize w6.setCell ⟨r, 3, none⟩ (.slice p6 (s.K.length + 1) c6) = w9 at *
              obtain ⟨y0', y1', y2', y3', y4', y5'⟩ := rp_cells hbr9
              obtain ⟨x0', x1', x2', x3', x4', x5'⟩ := rp_cells hb69
              clear hbr9 hb69
              go_wp2_with fail
              refine bodyPost_ret (v := rpV ⟨0, tg, td⟩) ?_ rfl ?_
              · rw [results_cellA rfl]
                go_simp
              · exact ⟨rfl, hfin.out⟩
            exact AllReadyH.nil
          exact AllReadyH.nil
        exact AllReadyH.nil
      exact AllReadyH.nil
    refine AllReadyH.cons (o := o19_13) rfl (fun K hK => ?_) ?_
    · clear hHeld
      unfold o19_13
      go_simp
      refine hK.out _ _ ?hS195 (fun hHeld => ?_)
      case hS195 => ((try dsimp only); exact LX.cells lAC)
      clear hK K
      try simp only [Act.put, List.setIfInBounds_toArray, List.set_cons_zero, List.set_cons_succ]
      refine wpAnyH_ready (rs := [5]) (by kernel_rfl) (by simp) ?_
      refine AllReadyH.cons (o := o19_5) rfl (fun K hK => ?_) ?_
      · clear hHeld
        unfold o19_5
        go_simp
        refine hK.out _ _ ?hS204 (fun hHeld => ?_)
        case hS204 => ((try dsimp only); exact LX.cells lAC)
        clear hK K
        try simp only [Act.put, List.setIfInBounds_toArray, List.set_cons_zero, List.set_cons_succ]
        refine wpAnyH_ready (rs := [6]) (by kernel_rfl) (by simp) ?_
        refine AllReadyH.cons (o := o19_6) rfl (fun K hK => ?_) ?_
        · clear hHeld
          unfold o19_6
          refine step_append_w (by with_reducible rfl) (by rfl) _ _ 45 45 (by rfl) _ _ (by rfl) (by rfl) hPAC.out ?_
          rintro v3 w3 ⟨g3, c3, rfl, o3, hg3, b3⟩
          have l3 := lAC.below b3
          have hbY := bAC.trans (b3.mono bAC.size)
          have hP2 := Lib.hid (kmore (k := (⟨oclient, oreq, ⟨0, tg, td⟩⟩ : Kn)) rfl o3 ((b3.block _ (lt_in hAC)).trans hAC) hkl2 hbY.size)
          refine hK.out _ _ ?hS217 (fun hHeld => ?_)
          case hS217 => ((try dsimp only); exact LX.cells l3)
          clear hK K
          try simp only [Act.put, List.setIfInBounds_toArray, List.set_cons_zero, List.set_cons_succ]
          refine wpAnyH_ready (rs := [14]) (by kernel_rfl) (by simp) ?_
          refine AllReadyH.cons (o := o19_14) rfl (fun K hK => ?_) ?_
          · clear hHeld
            unfold o19_14
            refine step_append_w (by with_reducible rfl) (by rfl) _ _ 45 45 (by rfl) _ _ (by rfl) (by rfl) hP2.out ?_
            rintro v6 w6 ⟨p6, c6, rfl, o6, b6'⟩
            have bz6 := Lib.hid (hbY.trans b6')
            replace o6 := Lib.hid o6
            have l6 := lz.below bz6.out
            obtain ⟨c6', f6⟩ := hF6.out w6 bz6.out
            refine hK.out _ _ ?hS231 (fun hHeld => ?_)
            case hS231 => ((try dsimp only); exact LX.cells l6)
            clear hK K
            try simp only [Act.put, List.setIfInBounds_toArray, List.set_cons_zero, List.set_cons_succ]
            refine wpAnyH_take (i := 15) (oi := o19_15) (v := ?v235) rfl (by kernel_rfl) (by kernel_rfl) (by kernel_rfl) (fun _ _ _ h => h) (Or.inl ⟨by rfl, ?y235⟩) (by assumption) ?r235
            case y235 => (intro w hSw; (try dsimp only at hSw); unfold o19_15; go_simp; try with_reducible rfl)
            try simp only [Act.put, List.setIfInBounds_toArray, List.set_cons_zero, List.set_cons_succ]
            refine wpAnyH_take (i := 16) (oi := o19_16) (v := ?v238) rfl (by kernel_rfl) (by kernel_rfl) (by kernel_rfl) (fun _ _ _ h => h) (Or.inl ⟨by rfl, ?y238⟩) (by assumption) ?r238
            case y238 => (intro w hSw; (try dsimp only at hSw); unfold o19_16; go_simp; try with_reducible rfl)
            try simp only [Act.put, List.setIfInBounds_toArray, List.set_cons_zero, List.set_cons_succ]
            refine wpAnyH_ready (rs := [17]) (by kernel_rfl) (by simp) ?_
            refine AllReadyH.cons (o := o19_17) rfl (fun K hK => ?_) ?_
            · clear hHeld
              unfold o19_17
              go_simp
              refine hK.out _ _ ?hS246 (fun hHeld => ?_)
              case hS246 => ((try dsimp only); exact LX.cells (l6.set _ _ hne3 hne2))
              clear hK K
              try simp only [Act.put, List.setIfInBounds_toArray, List.set_cons_zero, List.set_cons_succ]
              refine wpAnyH_done (by kernel_rfl) ?_ _
              refine NoPanic.normal ?_
              clear hHeld
              obtain ⟨hbr9, hb69, hfin⟩ := hE.out _ _ _ o6.out bz6.out
              replace hfin := Lib.hid hfin
              clear hE hF6 o6 bz6 l6 f6 c6' l3 hbY
              generalize w6.setCell ⟨r, 3, none⟩ (.slice p6 (s.K.length + 1) c6) = w9 at *
              obtain ⟨y0', y1', y2', y3', y4', y5'⟩ := rp_cells hbr9
              obtain ⟨x0', x1', x2', x3', x4', x5'⟩ := rp_cells hb69
              clear hbr9 hb69
              go_wp2_with fail
              refine bodyPost_ret (v := rpV ⟨0, tg, td⟩) ?_ rfl ?_
              · rw [results_cellA rfl]
                go_simp
              · exact ⟨rfl, hfin.out⟩
            exact AllReadyH.nil
          exact AllReadyH.nil
        exact AllReadyH.nil
      exact AllReadyH.nil
    exact AllReadyH.nil
  refine AllReadyH.cons (o := o19_5) rfl (fun K hK => ?_) ?_
  · clear hHeld
    unfold o19_5
    go_simp
    refine hK.out _ _ ?hS274 (fun hHeld => ?_)
    case hS274 => ((try dsimp only); exact LX.cells l0)
    clear hK K
    try simp only [Act.put, List.setIfInBounds_toArray, List.set_cons_zero, List.set_cons_succ]
    refine wpAnyH_ready (rs := [1, 13]) (by kernel_rfl) (by simp) ?_
    refine AllReadyH.cons (o := o19_1) rfl (fun K hK => ?_) ?_
    · clear hHeld
      unfold o19_1
      go_simp
      refine hK.out _ _ ?hS283 (fun hHeld => ?_)
      case hS283 => ((try dsimp only); exact LX.cells lA)
      clear hK K
      try simp only [Act.put, List.setIfInBounds_toArray, List.set_cons_zero, List.set_cons_succ]
      refine wpAnyH_ready (rs := [6, 13]) (by kernel_rfl) (by simp) ?_
      refine AllReadyH.cons (o := o19_6) rfl (fun K hK => ?_) ?_
      · clear hHeld
        unfold o19_6
        refine step_append_w (by with_reducible rfl) (by rfl) _ _ 45 45 (by rfl) _ _ (by rfl) (by rfl) hPA.out ?_
        rintro v3 w3 ⟨g3, c3, rfl, o3, hg3, b3⟩
        have l3 := lA.below b3
        have bz3 := bA.trans (b3.mono bA.size)
        have l3b := l3.below ((Below.refl w3.heap.size w3).alloc (Nat.le_refl _) (Obj.cells #[.int .i64 oclient, .int .i64 oreq, .int .i64 0, .int .i64 tg, .int .i64 td] 50))
        have hbY := bz3.alloc bz3.size (Obj.cells #[.int .i64 oclient, .int .i64 oreq, .int .i64 0, .int .i64 tg, .int .i64 td] 50)
        have hP2 := Lib.hid (kmore (k := (⟨oclient, oreq, ⟨0, tg, td⟩⟩ : Kn)) rfl (World.ownsRow.alloc o3 (Obj.cells #[.int .i64 oclient, .int .i64 oreq, .int .i64 0, .int .i64 tg, .int .i64 td] 50)) (Go.heap_alloc_new w3 (Obj.cells #[.int .i64 oclient, .int .i64 oreq, .int .i64 0, .int .i64 tg, .int .i64 td] 50)) hkl2 hbY.size)
        refine hK.out _ _ ?hS298 (fun hHeld => ?_)
        case hS298 => ((try dsimp only); exact LX.cells l3)
        clear hK K
        try simp only [Act.put, List.setIfInBounds_toArray, List.set_cons_zero, List.set_cons_succ]
        refine wpAnyH_ready (rs := [13]) (by kernel_rfl) (by simp) ?_
        refine AllReadyH.cons (o := o19_13) rfl (fun K hK => ?_) ?_
        · clear hHeld
          unfold o19_13
          go_simp
          refine hK.out _ _ ?hS307 (fun hHeld => ?_)
          case hS307 => ((try dsimp only); exact LX.cells l3b)
          clear hK K
          try simp only [Act.put, List.setIfInBounds_toArray, List.set_cons_zero, List.set_cons_succ]
          refine wpAnyH_ready (rs := [14]) (by kernel_rfl) (by simp) ?_
          refine AllReadyH.cons (o := o19_14) rfl (fun K hK => ?_) ?_
          · clear hHeld
            unfold o19_14
            refine step_append_w (by with_reducible rfl) (by rfl) _ _ 45 45 (by rfl) _ _ (by rfl) (by rfl) hP2.out ?_
            rintro v6 w6 ⟨p6, c6, rfl, o6, b6'⟩
            have bz6 := Lib.hid (hbY.trans b6')
            replace o6 := Lib.hid o6
            have l6 := lz.below bz6.out
            obtain ⟨c6', f6⟩ := hF6.out w6 bz6.out
            refine hK.out _ _ ?hS321 (fun hHeld => ?_)
            case hS321 => ((try dsimp only); exact LX.cells l6)
            clear hK K
            try simp only [Act.put, List.setIfInBounds_toArray, List.set_cons_zero, List.set_cons_succ]
            refine wpAnyH_take (i := 15) (oi := o19_15) (v := ?v325) rfl (by kernel_rfl) (by kernel_rfl) (by kernel_rfl) (fun _ _ _ h => h) (Or.inl ⟨by rfl, ?y325⟩) (by assumption) ?r325
            case y325 => (intro w hSw; (try dsimp only at hSw); unfold o19_15; go_simp; try with_reducible rfl)
            try simp only [Act.put, List.setIfInBounds_toArray, List.set_cons_zero, List.set_cons_succ]
            refine wpAnyH_take (i := 16) (oi := o19_16) (v := ?v328) rfl (by kernel_rfl) (by kernel_rfl) (by kernel_rfl) (fun _ _ _ h => h) (Or.inl ⟨by rfl, ?y328⟩) (by assumption) ?r328
            case y328 => (intro w hSw; (try dsimp only at hSw); unfold o19_16; go_simp; try with_reducible rfl)
            try simp only [Act.put, List.setIfInBounds_toArray, List.set_cons_zero, List.set_cons_succ]
            refine wpAnyH_ready (rs := [17]) (by kernel_rfl) (by simp) ?_
            refine AllReadyH.cons (o := o19_17) rfl (fun K hK => ?_) ?_
            · clear hHeld
              unfold o19_17
              go_simp
              refine hK.out _ _ ?hS336 (fun hHeld => ?_)
              case hS336 => ((try dsimp only); exact LX.cells (l6.set _ _ hne3 hne2))
              clear hK K
              try simp only [Act.put, List.setIfInBounds_toArray, List.set_cons_zero, List.set_cons_succ]
              refine wpAnyH_done (by kernel_rfl) ?_ _
              refine NoPanic.normal ?_
              clear hHeld
              obtain ⟨hbr9, hb69, hfin⟩ := hE.out _ _ _ o6.out bz6.out
              replace hfin := Lib.hid hfin
              clear hE hF6 o6 bz6 l6 f6 c6' l3 hbY
              generalize w6.setCell ⟨r, 3, none⟩ (.slice p6 (s.K.length + 1) c6) = w9 at *
              obtain ⟨y0', y1', y2', y3', y4', y5'⟩ := rp_cells hbr9
              obtain ⟨x0', x1', x2', x3', x4', x5'⟩ := rp_cells hb69
              clear hbr9 hb69
              go_wp2_with fail
              refine bodyPost_ret (v := rpV ⟨0, tg, td⟩) ?_ rfl ?_
              · rw [results_cellA rfl]
                go_simp
              · exact ⟨rfl, hfin.out⟩
            exact AllReadyH.nil
          exact AllReadyH.nil
        exact AllReadyH.nil
      refine AllReadyH.cons (o := o19_13) rfl (fun K hK => ?_) ?_
      · clear hHeld
        unfold o19_13
        go_simp
        refine hK.out _ _ ?hS362 (fun hHeld => ?_)
        case hS362 => ((try dsimp only); exact LX.cells lAC)
        clear hK K
        try simp only [Act.put, List.setIfInBounds_toArray, List.set_cons_zero, List.set_cons_succ]
        refine wpAnyH_ready (rs := [6]) (by kernel_rfl) (by simp) ?_
        refine AllReadyH.cons (o := o19_6) rfl (fun K hK => ?_) ?_
        · clear hHeld
          unfold o19_6
          refine step_append_w (by with_reducible rfl) (by rfl) _ _ 45 45 (by rfl) _ _ (by rfl) (by rfl) hPAC.out ?_
          rintro v3 w3 ⟨g3, c3, rfl, o3, hg3, b3⟩
          have l3 := lAC.below b3
          have hbY := bAC.trans (b3.mono bAC.size)
          have hP2 := Lib.hid (kmore (k := (⟨oclient, oreq, ⟨0, tg, td⟩⟩ : Kn)) rfl o3 ((b3.block _ (lt_in hAC)).trans hAC) hkl2 hbY.size)
          refine hK.out _ _ ?hS375 (fun hHeld => ?_)
          case hS375 => ((try dsimp only); exact LX.cells l3)
          clear hK K
          try simp only [Act.put, List.setIfInBounds_toArray, List.set_cons_zero, List.set_cons_succ]
          refine wpAnyH_ready (rs := [14]) (by kernel_rfl) (by simp) ?_
          refine AllReadyH.cons (o := o19_14) rfl (fun K hK => ?_) ?_
          · clear hHeld
            unfold o19_14
            refine step_append_w (by with_reducible rfl) (by rfl) _ _ 45 45 (by rfl) _ _ (by rfl) (by rfl) hP2.out ?_
            rintro v6 w6 ⟨p6, c6, rfl, o6, b6'⟩
            have bz6 := Lib.hid (hbY.trans b6')
            replace o6 := Lib.hid o6
            have l6 := lz.below bz6.out
            obtain ⟨c6', f6⟩ := hF6.out w6 bz6.out
            refine hK.out _ _ ?hS389 (fun hHeld => ?_)
            case hS389 => ((try dsimp only); exact LX.cells l6)
            clear hK K
            try simp only [Act.put, List.setIfInBounds_toArray, List.set_cons_zero, List.set_cons_succ]
            refine wpAnyH_take (i := 15) (oi := o19_15) (v := ?v393) rfl (by kernel_rfl) (by kernel_rfl) (by kernel_rfl) (fun _ _ _ h => h) (Or.inl ⟨by rfl, ?y393⟩) (by assumption) ?r393
            case y393 => (intro w hSw; (try dsimp only at hSw); unfold o19_15; go_simp; try with_reducible rfl)
            try simp only [Act.put, List.setIfInBounds_toArray, List.set_cons_zero, List.set_cons_succ]
            refine wpAnyH_take (i := 16) (oi := o19_16) (v := ?v396) rfl (by kernel_rfl) (by kernel_rfl) (by kernel_rfl) (fun _ _ _ h => h) (Or.inl ⟨by rfl, ?y396⟩) (by assumption) ?r396
            case y396 => (intro w hSw; (try dsimp only at hSw); unfold o19_16; go_simp; try with_reducible rfl)
            try simp only [Act.put, List.setIfInBounds_toArray, List.set_cons_zero, List.set_cons_succ]
            refine wpAnyH_ready (rs := [17]) (by kernel_rfl) (by simp) ?_
            refine AllReadyH.cons (o := o19_17) rfl (fun K hK => ?_) ?_
            · clear hHeld
              unfold o19_17
              go_simp
              refine hK.out _ _ ?hS404 (fun hHeld => ?_)
              case hS404 => ((try dsimp only); exact LX.cells (l6.set _ _ hne3 hne2))
              clear hK K
              try simp only [Act.put, List.setIfInBounds_toArray, List.set_cons_zero, List.set_cons_succ]
              refine wpAnyH_done (by kernel_rfl) ?_ _
              refine NoPanic.normal ?_
              clear hHeld
              obtain ⟨hbr9, hb69, hfin⟩ := hE.out _ _ _ o6.out bz6.out
              replace hfin := Lib.hid hfin
              clear hE hF6 o6 bz6 l6 f6 c6' l3 hbY
              generalize w6.setCell ⟨r, 3, none⟩ (.slice p6 (s.K.length + 1) c6) = w9 at *
              obtain ⟨y0', y1', y2', y3', y4', y5'⟩ := rp_cells hbr9
              obtain ⟨x0', x1', x2', x3', x4', x5'⟩ := rp_cells hb69
              clear hbr9 hb69
              go_wp2_with fail
              refine bodyPost_ret (v := rpV ⟨0, tg, td⟩) ?_ rfl ?_
              · rw [results_cellA rfl]
                go_simp
              · exact ⟨rfl, hfin.out⟩
            exact AllReadyH.nil
          exact AllReadyH.nil
        exact AllReadyH.nil
      exact AllReadyH.nil
    refine AllReadyH.cons (o := o19_13) rfl (fun K hK => ?_) ?_
    · clear hHeld
      unfold o19_13
      go_simp
      refine hK.out _ _ ?hS431 (fun hHeld => ?_)
      case hS431 => ((try dsimp only); exact LX.cells lC)
      clear hK K
      try simp only [Act.put, List.setIfInBounds_toArray, List.set_cons_zero, List.set_cons_succ]
      refine wpAnyH_ready (rs := [1]) (by kernel_rfl) (by simp) ?_
      refine AllReadyH.cons (o := o19_1) rfl (fun K hK => ?_) ?_
      · clear hHeld
        unfold o19_1
        go_simp
        refine hK.out _ _ ?hS440 (fun hHeld => ?_)
        case hS440 => ((try dsimp only); exact LX.cells lCA)
        clear hK K
        try simp only [Act.put, List.setIfInBounds_toArray, List.set_cons_zero, List.set_cons_succ]
        refine wpAnyH_ready (rs := [6]) (by kernel_rfl) (by simp) ?_
        refine AllReadyH.cons (o := o19_6) rfl (fun K hK => ?_) ?_
        · clear hHeld
          unfold o19_6
          refine step_append_w (by with_reducible rfl) (by rfl) _ _ 45 45 (by rfl) _ _ (by rfl) (by rfl) hPCA.out ?_
          rintro v3 w3 ⟨g3, c3, rfl, o3, hg3, b3⟩
          have l3 := lCA.below b3
          have hbY := bCA.trans (b3.mono bCA.size)
          have hP2 := Lib.hid (kmore (k := (⟨oclient, oreq, ⟨0, tg, td⟩⟩ : Kn)) rfl o3 ((b3.block _ (lt_in hCA)).trans hCA) hkl2 hbY.size)
          refine hK.out _ _ ?hS453 (fun hHeld => ?_)
          case hS453 => ((try dsimp only); exact LX.cells l3)
          clear hK K
          try simp only [Act.put, List.setIfInBounds_toArray, List.set_cons_zero, List.set_cons_succ]
          refine wpAnyH_ready (rs := [14]) (by kernel_rfl) (by simp) ?_
          refine AllReadyH.cons (o := o19_14) rfl (fun K hK => ?_) ?_
          · clear hHeld
            unfold o19_14
            refine step_append_w (by with_reducible rfl) (by rfl) _ _ 45 45 (by rfl) _ _ (by rfl) (by rfl) hP2.out ?_
            rintro v6 w6 ⟨p6, c6, rfl, o6, b6'⟩
            have bz6 := Lib.hid (hbY.trans b6')
            replace o6 := Lib.hid o6
            have l6 := lz.below bz6.out
            obtain ⟨c6', f6⟩ := hF6.out w6 bz6.out
            refine hK.out _ _ ?hS467 (fun hHeld => ?_)
            case hS467 => ((try dsimp only); exact LX.cells l6)
            clear hK K
            try simp only [Act.put, List.setIfInBounds_toArray, List.set_cons_zero, List.set_cons_succ]
            refine wpAnyH_take (i := 15) (oi := o19_15) (v := ?v471) rfl (by kernel_rfl) (by kernel_rfl) (by kernel_rfl) (fun _ _ _ h => h) (Or.inl ⟨by rfl, ?y471⟩) (by assumption) ?r471
            case y471 => (intro w hSw; (try dsimp only at hSw); unfold o19_15; go_simp; try with_reducible rfl)
            try simp only [Act.put, List.setIfInBounds_toArray, List.set_cons_zero, List.set_cons_succ]
            refine wpAnyH_take (i := 16) (oi := o19_16) (v := ?v474) rfl (by kernel_rfl) (by kernel_rfl) (by kernel_rfl) (fun _ _ _ h => h) (Or.inl ⟨by rfl, ?y474⟩) (by assumption) ?r474
            case y474 => (intro w hSw; (try dsimp only at hSw); unfold o19_16; go_simp; try with_reducible rfl)
            try simp only [Act.put, List.setIfInBounds_toArray, List.set_cons_zero, List.set_cons_succ]
            refine wpAnyH_ready (rs := [17]) (by kernel_rfl) (by simp) ?_
            refine AllReadyH.cons (o := o19_17) rfl (fun K hK => ?_) ?_
            · clear hHeld
              unfold o19_17
              go_simp
              refine hK.out _ _ ?hS482 (fun hHeld => ?_)
              case hS482 => ((try dsimp only); exact LX.cells (l6.set _ _ hne3 hne2))
              clear hK K
              try simp only [Act.put, List.setIfInBounds_toArray, List.set_cons_zero, List.set_cons_succ]
              refine wpAnyH_done (by kernel_rfl) ?_ _
              refine NoPanic.normal ?_
              clear hHeld
              obtain ⟨hbr9, hb69, hfin⟩ := hE.out _ _ _ o6.out bz6.out
              replace hfin := Lib.hid hfin
              clear hE hF6 o6 bz6 l6 f6 c6' l3 hbY
              generalize w6.setCell ⟨r, 3, none⟩ (.slice p6 (s.K.length + 1) c6) = w9 at *
              obtain ⟨y0', y1', y2', y3', y4', y5'⟩ := rp_cells hbr9
              obtain ⟨x0', x1', x2', x3', x4', x5'⟩ := rp_cells hb69
              clear hbr9 hb69
              go_wp2_with fail
              refine bodyPost_ret (v := rpV ⟨0, tg, td⟩) ?_ rfl ?_
              · rw [results_cellA rfl]
                go_simp
              · exact ⟨rfl, hfin.out⟩
            exact AllReadyH.nil
          exact AllReadyH.nil
        exact AllReadyH.nil
      exact AllReadyH.nil
    exact AllReadyH.nil
  refine AllReadyH.cons (o := o19_13) rfl (fun K hK => ?_) ?_
  · clear hHeld
    unfold o19_13
    go_simp
    refine hK.out _ _ ?hS510 (fun hHeld => ?_)
    case hS510 => ((try dsimp only); exact LX.cells lC)
    clear hK K
    try simp only [Act.put, List.setIfInBounds_toArray, List.set_cons_zero, List.set_cons_succ]
    refine wpAnyH_ready (rs := [1, 5]) (by kernel_rfl) (by simp) ?_
    refine AllReadyH.cons (o := o19_1) rfl (fun K hK => ?_) ?_
    · clear hHeld
      unfold o19_1
      go_simp
      refine hK.out _ _ ?hS519 (fun hHeld => ?_)
      case hS519 => ((try dsimp only); exact LX.cells lCA)
      clear hK K
      try simp only [Act.put, List.setIfInBounds_toArray, List.set_cons_zero, List.set_cons_succ]
      refine wpAnyH_ready (rs := [5]) (by kernel_rfl) (by simp) ?_
      refine AllReadyH.cons (o := o19_5) rfl (fun K hK => ?_) ?_
      · clear hHeld
        unfold o19_5
        go_simp
        refine hK.out _ _ ?hS528 (fun hHeld => ?_)
        case hS528 => ((try dsimp only); exact LX.cells lCA)
        clear hK K
        try simp only [Act.put, List.setIfInBounds_toArray, List.set_cons_zero, List.set_cons_succ]
        refine wpAnyH_ready (rs := [6]) (by kernel_rfl) (by simp) ?_
        refine AllReadyH.cons (o := o19_6) rfl (fun K hK => ?_) ?_
        · clear hHeld
          unfold o19_6
          refine step_append_w (by with_reducible rfl) (by rfl) _ _ 45 45 (by rfl) _ _ (by rfl) (by rfl) hPCA.out ?_
          rintro v3 w3 ⟨g3, c3, rfl, o3, hg3, b3⟩
          have l3 := lCA.below b3
          have hbY := bCA.trans (b3.mono bCA.size)
          have hP2 := Lib.hid (kmore (k := (⟨oclient, oreq, ⟨0, tg, td⟩⟩ : Kn)) rfl o3 ((b3.block _ (lt_in hCA)).trans hCA) hkl2 hbY.size)
          refine hK.out _ _ ?hS541 (fun hHeld => ?_)
          case hS541 => ((try dsimp only); exact LX.cells l3)
          clear hK K
          try simp only [Act.put, List.setIfInBounds_toArray, List.set_cons_zero, List.set_cons_succ]
          refine wpAnyH_ready (rs := [14]) (by kernel_rfl) (by simp) ?_
          refine AllReadyH.cons (o := o19_14) rfl (fun K hK => ?_) ?_
          · clear hHeld
            unfold o19_14
            refine step_append_w (by with_reducible rfl) (by rfl) _ _ 45 45 (by rfl) _ _ (by rfl) (by rfl) hP2.out ?_
            rintro v6 w6 ⟨p6, c6, rfl, o6, b6'⟩
            have bz6 := Lib.hid (hbY.trans b6')
            replace o6 := Lib.hid o6
            have l6 := lz.below bz6.out
            obtain ⟨c6', f6⟩ := hF6.out w6 bz6.out
            refine hK.out _ _ ?hS555 (fun hHeld => ?_)
            case hS555 => ((try dsimp only); exact LX.cells l6)
            clear hK K
            try simp only [Act.put, List.setIfInBounds_toArray, List.set_cons_zero, List.set_cons_succ]
            refine wpAnyH_take (i := 15) (oi := o19_15) (v := ?v559) rfl (by kernel_rfl) (by kernel_rfl) (by kernel_rfl) (fun _ _ _ h => h) (Or.inl ⟨by rfl, ?y559⟩) (by assumption) ?r559
            case y559 => (intro w hSw; (try dsimp only at hSw); unfold o19_15; go_simp; try with_reducible rfl)
            try simp only [Act.put, List.setIfInBounds_toArray, List.set_cons_zero, List.set_cons_succ]
            refine wpAnyH_take (i := 16) (oi := o19_16) (v := ?v562) rfl (by kernel_rfl) (by kernel_rfl) (by kernel_rfl) (fun _ _ _ h => h) (Or.inl ⟨by rfl, ?y562⟩) (by assumption) ?r562
            case y562 => (intro w hSw; (try dsimp only at hSw); unfold o19_16; go_simp; try with_reducible rfl)
            try simp only [Act.put, List.setIfInBounds_toArray, List.set_cons_zero, List.set_cons_succ]
            refine wpAnyH_ready (rs := [17]) (by kernel_rfl) (by simp) ?_
            refine AllReadyH.cons (o := o19_17) rfl (fun K hK => ?_) ?_
            · clear hHeld
              unfold o19_17
              go_simp
              refine hK.out _ _ ?hS570 (fun hHeld => ?_)
              case hS570 => ((try dsimp only); exact LX.cells (l6.set _ _ hne3 hne2))
              clear hK K
              try simp only [Act.put, List.setIfInBounds_toArray, List.set_cons_zero, List.set_cons_succ]
              refine wpAnyH_done (by kernel_rfl) ?_ _
              refine NoPanic.normal ?_
              clear hHeld
              obtain ⟨hbr9, hb69, hfin⟩ := hE.out _ _ _ o6.out bz6.out
              replace hfin := Lib.hid hfin
              clear hE hF6 o6 bz6 l6 f6 c6' l3 hbY
              generalize w6.setCell ⟨r, 3, none⟩ (.slice p6 (s.K.length + 1) c6) = w9 at *
              obtain ⟨y0', y1', y2', y3', y4', y5'⟩ := rp_cells hbr9
              obtain ⟨x0', x1', x2', x3', x4', x5'⟩ := rp_cells hb69
              clear hbr9 hb69
              go_wp2_with fail
              refine bodyPost_ret (v := rpV ⟨0, tg, td⟩) ?_ rfl ?_
              · rw [results_cellA rfl]
                go_simp
              · exact ⟨rfl, hfin.out⟩
            exact AllReadyH.nil
          exact AllReadyH.nil
        exact AllReadyH.nil
      exact AllReadyH.nil
    refine AllReadyH.cons (o := o19_5) rfl (fun K hK => ?_) ?_
    · clear hHeld
      unfold o19_5
      go_simp
      refine hK.out _ _ ?hS597 (fun hHeld => ?_)
      case hS597 => ((try dsimp only); exact LX.cells lC)
      clear hK K
      try simp only [Act.put, List.setIfInBounds_toArray, List.set_cons_zero, List.set_cons_succ]
      refine wpAnyH_ready (rs := [1]) (by kernel_rfl) (by simp) ?_
      refine AllReadyH.cons (o := o19_1) rfl (fun K hK => ?_) ?_
      · clear hHeld
        unfold o19_1
        go_simp
        refine hK.out _ _ ?hS606 (fun hHeld => ?_)
        case hS606 => ((try dsimp only); exact LX.cells lCA)
        clear hK K
        try simp only [Act.put, List.setIfInBounds_toArray, List.set_cons_zero, List.set_cons_succ]
        refine wpAnyH_ready (rs := [6]) (by kernel_rfl) (by simp) ?_
        refine AllReadyH.cons (o := o19_6) rfl (fun K hK => ?_) ?_
        · clear hHeld
          unfold o19_6
          refine step_append_w (by with_reducible rfl) (by rfl) _ _ 45 45 (by rfl) _ _ (by rfl) (by rfl) hPCA.out ?_
          rintro v3 w3 ⟨g3, c3, rfl, o3, hg3, b3⟩
          have l3 := lCA.below b3
          have hbY := bCA.trans (b3.mono bCA.size)
          have hP2 := Lib.hid (kmore (k := (⟨oclient, oreq, ⟨0, tg, td⟩⟩ : Kn)) rfl o3 ((b3.block _ (lt_in hCA)).trans hCA) hkl2 hbY.size)
          refine hK.out _ _ ?hS619 (fun hHeld => ?_)
          case hS619 => ((try dsimp only); exact LX.cells l3)
          clear hK K
          try simp only [Act.put, List.setIfInBounds_toArray, List.set_cons_zero, List.set_cons_succ]
          refine wpAnyH_ready (rs := [14]) (by kernel_rfl) (by simp) ?_
          refine AllReadyH.cons (o := o19_14) rfl (fun K hK => ?_) ?_
          · clear hHeld
            unfold o19_14
            refine step_append_w (by with_reducible rfl) (by rfl) _ _ 45 45 (by rfl) _ _ (by rfl) (by rfl) hP2.out ?_
            rintro v6 w6 ⟨p6, c6, rfl, o6, b6'⟩
            have bz6 := Lib.hid (hbY.trans b6')
            replace o6 := Lib.hid o6
            have l6 := lz.below bz6.out
            obtain ⟨c6', f6⟩ := hF6.out w6 bz6.out
            refine hK.out _ _ ?hS633 (fun hHeld => ?_)
            case hS633 => ((try dsimp only); exact LX.cells l6)
            clear hK K
            try simp only [Act.put, List.setIfInBounds_toArray, List.set_cons_zero, List.set_cons_succ]
            refine wpAnyH_take (i := 15) (oi := o19_15) (v := ?v637) rfl (by kernel_rfl) (by kernel_rfl) (by kernel_rfl) (fun _ _ _ h => h) (Or.inl ⟨by rfl, ?y637⟩) (by assumption) ?r637
            case y637 => (intro w hSw; (try dsimp only at hSw); unfold o19_15; go_simp; try with_reducible rfl)
            try simp only [Act.put, List.setIfInBounds_toArray, List.set_cons_zero, List.set_cons_succ]
            refine wpAnyH_take (i := 16) (oi := o19_16) (v := ?v640) rfl (by kernel_rfl) (by kernel_rfl) (by kernel_rfl) (fun _ _ _ h => h) (Or.inl ⟨by rfl, ?y640⟩) (by assumption) ?r640
            case y640 => (intro w hSw; (try dsimp only at hSw); unfold o19_16; go_simp; try with_reducible rfl)
            try simp only [Act.put, List.setIfInBounds_toArray, List.set_cons_zero, List.set_cons_succ]
            refine wpAnyH_ready (rs := [17]) (by kernel_rfl) (by simp) ?_
            refine AllReadyH.cons (o := o19_17) rfl (fun K hK => ?_) ?_
            · clear hHeld
              unfold o19_17
              go_simp
              refine hK.out _ _ ?hS648 (fun hHeld => ?_)
              case hS648 => ((try dsimp only); exact LX.cells (l6.set _ _ hne3 hne2))
              clear hK K
              try simp only [Act.put, List.setIfInBounds_toArray, List.set_cons_zero, List.set_cons_succ]
              refine wpAnyH_done (by kernel_rfl) ?_ _
              refine NoPanic.normal ?_
              clear hHeld
              obtain ⟨hbr9, hb69, hfin⟩ := hE.out _ _ _ o6.out bz6.out
              replace hfin := Lib.hid hfin
              clear hE hF6 o6 bz6 l6 f6 c6' l3 hbY
              generalize w6.setCell ⟨r, 3, none⟩ (.slice p6 (s.K.length + 1) c6) = w9 at *
              obtain ⟨y0', y1', y2', y3', y4', y5'⟩ := rp_cells hbr9
              obtain ⟨x0', x1', x2', x3', x4', x5'⟩ := rp_cells hb69
              clear hbr9 hb69
              go_wp2_with fail
              refine bodyPost_ret (v := rpV ⟨0, tg, td⟩) ?_ rfl ?_
              · rw [results_cellA rfl]
                go_simp
              · exact ⟨rfl, hfin.out⟩
            exact AllReadyH.nil
          exact AllReadyH.nil
        exact AllReadyH.nil
      exact AllReadyH.nil
    exact AllReadyH.nil
  exact AllReadyH.nil
end
end Go.Proofs.YtiidhcpflplpiaaGreatDoor
