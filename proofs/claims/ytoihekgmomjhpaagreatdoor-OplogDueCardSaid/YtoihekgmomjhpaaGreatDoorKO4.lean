/-
  Texts laid into one (a claim has 60 files at most): OKeep.
-/
import Derived.Test.YtoihekgmomjhpaaGreatDoorKO3
/-
  Layer 9: keepVersion: a timer that changed is written down, and set in the wheel or taken out of it.
-/
set_option linter.unusedVariables false
set_option linter.unusedSimpArgs false
namespace Go.Proofs.YtoihekgmomjhpaaGreatDoor
open Go.RowKit Go.MapKept Crn Nxt Ste
set_option maxRecDepth 100000
noncomputable def readT (T : List Tm) (id : Int) : Rp := ⟨getE T id, (valT T id).gen, (valT T id).due⟩
open Classical in
noncomputable def keepV (g : Lo) (T0 T : List Tm) (id : Int) : Lo := if valT T id = valT T0 id then g else { g with ver := verPut g.ver id (g.ops.length, readT T id) }
/-! The wheel behind a change of one timer. -/
theorem Lw.wheelSet {w0 w : World} {b c wb now : Nat} {s : St} {l : List Whl.ItemN} {L : List Nat} {P : World → Prop} (h : Lw w0 w b s c wb now l L P) {T0 : List Tm} {id : Int} (hl : WIn l T0) (ht0 : T0.length ≤ 16) (ho : ∀ i, i ≠ id → valT s.T i = valT T0 i) (hd : ∀ t ∈ s.T, 0 ≤ t.due ∧ t.due ≤ 1099511627776)
    (hp : 0 < (valT s.T id).due) : Calls Tryz.prog 52 #[.pointer (some ⟨wb, 0, none⟩), .int .i64 id, .int .i64 (valT s.T id).due] w fun e w' => (∃ v, e = .returned v) ∧ ∃ l', WIn l' s.T ∧ Lw w0 w' b s c wb now l' L P := by
  obtain ⟨t, ht, e1, e2⟩ := val_mem (T := s.T) (i := id) (by omega)
  have ok := h.ok.tm t ht
  obtain ⟨n, rfl⟩ : ∃ n : Nat, id = (n : Int) := ⟨id.toNat, by have := ok.id0; omega⟩
  obtain ⟨a, ha⟩ : ∃ a : Nat, (valT s.T (n : Int)).due = (a : Int) := ⟨(valT s.T (n : Int)).due.toNat, by omega⟩
  have ha2 : a ≤ 1099511627776 := by have := (hd t ht).2; rw [e2, ha] at this; omega
  have hn : n ≤ 1048576 := by have := ok.id1; omega
  have hlen := hl.len
  rw [ha] at hp ⊢
  by_cases h0 : (valT T0 (n : Int)).due ≤ 0
  · exact (h.setNew (fun p hp e => hl.none h0 p hp (by rw [e])) hn ha2 (by omega)).mono fun e w' ⟨he, H⟩ => ⟨⟨_, he⟩, _, hl.setNew ho h0 (by omega) ha, H⟩
  · obtain ⟨a0, ha0⟩ : ∃ a0 : Nat, (valT T0 (n : Int)).due = (a0 : Int) := ⟨(valT T0 (n : Int)).due.toNat, by omega⟩
    have hin : (a0, n) ∈ l := (hl.has a0 n).2 ⟨by omega, ha0⟩
    exact (h.setOld hin hn ha2 (by omega)).mono fun e w' ⟨he, H⟩ => ⟨⟨_, he⟩, _, hl.setOld ho hin (by omega) ha, H⟩
theorem Lw.wheelOut {w0 w : World} {b c wb now : Nat} {s : St} {l : List Whl.ItemN} {L : List Nat} {P : World → Prop} (h : Lw w0 w b s c wb now l L P) {T0 : List Tm} {id : Int} (hl : WIn l T0) (ho : ∀ i, i ≠ id → valT s.T i = valT T0 i) (hid : i64 id)
    (hp : (valT s.T id).due ≤ 0) : Calls Tryz.prog 53 #[.pointer (some ⟨wb, 0, none⟩), .int .i64 id] w fun e w' => (∃ v, e = .returned v) ∧ ∃ l', WIn l' s.T ∧ Lw w0 w' b s c wb now l' L P := by
  by_cases hin : ∃ p ∈ l, (p.2 : Int) = id
  · obtain ⟨⟨a, n⟩, hin, rfl⟩ := hin
    exact (h.remSome hin).mono fun e w' ⟨he, H⟩ => ⟨⟨_, he⟩, _, hl.out ho hin hp, H⟩
  · have hn : ∀ p, p ∈ l → (p.2 : Int) ≠ id := fun p hp e => hin ⟨p, hp, e⟩
    refine (h.remNone hid hn).mono fun e w' ⟨he, H⟩ => ⟨⟨_, he⟩, l, ⟨hl.nodup, fun a i => ?_⟩, H⟩
    by_cases e : (i : Int) = id
    · exact ⟨fun g => absurd e (hn _ g), fun g => by rw [e] at g; omega⟩
    · rw [ho _ e]
      exact hl.has a i
abbrev oV_0 : Oper := { dst := some 27, op := Go.Op.move (Go.Operand.tmp 0), type := 25, pos := "oplog.go:229", after := #[], guard := none }
abbrev oV_1 : Oper := { dst := some 28, op := Go.Op.nilCheck (Go.Operand.tmp 27), type := 0, pos := "oplog.go:229", after := #[{ on := 0, ground := Go.Ground.data }], guard := none }
abbrev oV_2 : Oper := { dst := some 29, op := Go.Op.fieldAddr 81 (Go.Operand.tmp 28) 5, type := 0, pos := "oplog.go:229", after := #[{ on := 1, ground := Go.Ground.data }], guard := none }
abbrev oV_3 : Oper := { dst := some 30, op := Go.Op.load 79 (Go.Operand.tmp 29), type := 79, pos := "oplog.go:229", after := #[{ on := 2, ground := Go.Ground.data }], guard := none }
abbrev oV_4 : Oper := { dst := some 31, op := Go.Op.move (Go.Operand.tmp 1), type := 3, pos := "oplog.go:229", after := #[], guard := none }
abbrev oV_5 : Oper := { dst := some 32, op := Go.Op.move (Go.Operand.tmp 0), type := 25, pos := "oplog.go:229", after := #[], guard := none }
abbrev oV_6 : Oper := { dst := some 33, op := Go.Op.nilCheck (Go.Operand.tmp 32), type := 0, pos := "oplog.go:229", after := #[{ on := 5, ground := Go.Ground.data }], guard := none }
abbrev oV_7 : Oper := { dst := some 34, op := Go.Op.fieldAddr 81 (Go.Operand.tmp 33) 5, type := 0, pos := "oplog.go:229", after := #[{ on := 6, ground := Go.Ground.data }], guard := none }
abbrev oV_8 : Oper := { dst := some 35, op := Go.Op.load 79 (Go.Operand.tmp 34), type := 79, pos := "oplog.go:229", after := #[{ on := 7, ground := Go.Ground.data }], guard := none }
abbrev oV_9 : Oper := { dst := some 36, op := Go.Op.move (Go.Operand.tmp 1), type := 3, pos := "oplog.go:229", after := #[], guard := none }
abbrev oV_10 : Oper := { dst := some 37, op := Go.Op.lookup 79 (Go.Operand.tmp 35) (Go.Operand.tmp 36) false, type := 93, pos := "oplog.go:229", after := #[{ on := 8, ground := Go.Ground.data }, { on := 9, ground := Go.Ground.data }], guard := none }
abbrev oV_11 : Oper := { dst := some 38, op := Go.Op.move (Go.Operand.tmp 0), type := 25, pos := "oplog.go:229", after := #[], guard := none }
abbrev oV_12 : Oper := { dst := some 39, op := Go.Op.nilCheck (Go.Operand.tmp 38), type := 0, pos := "oplog.go:229", after := #[{ on := 11, ground := Go.Ground.data }], guard := none }
abbrev oV_13 : Oper := { dst := some 40, op := Go.Op.fieldAddr 81 (Go.Operand.tmp 39) 2, type := 0, pos := "oplog.go:229", after := #[{ on := 12, ground := Go.Ground.data }], guard := none }
abbrev oV_14 : Oper := { dst := some 41, op := Go.Op.load 22 (Go.Operand.tmp 40), type := 22, pos := "oplog.go:229", after := #[{ on := 13, ground := Go.Ground.data }], guard := none }
abbrev oV_15 : Oper := { dst := some 42, op := Go.Op.call { callee := Go.Callee.builtin Go.Builtin.len, args := #[Go.Operand.tmp 41], argTypes := #[22] }, type := 3, pos := "oplog.go:229", after := #[{ on := 14, ground := Go.Ground.data }], guard := none }
abbrev oV_16 : Oper := { dst := some 43, op := Go.Op.load 34 (Go.Operand.tmp 8), type := 34, pos := "oplog.go:229", after := #[], guard := none }
abbrev oV_17 : Oper := { dst := some 44, op := Go.Op.build 96 #[(0, Go.Operand.tmp 42), (1, Go.Operand.tmp 43)], type := 96, pos := "oplog.go:229", after := #[{ on := 15, ground := Go.Ground.data }, { on := 16, ground := Go.Ground.data }], guard := none }
abbrev oV_18 : Oper := { dst := some 45, op := Go.Op.buildSlice 93 1 #[(0, Go.Operand.tmp 44)], type := 93, pos := "oplog.go:229", after := #[{ on := 17, ground := Go.Ground.data }], guard := none }
abbrev oV_19 : Oper := { dst := some 46, op := Go.Op.call { callee := Go.Callee.builtin Go.Builtin.append, args := #[Go.Operand.tmp 37, Go.Operand.tmp 45], argTypes := #[93, 93] }, type := 93, pos := "oplog.go:229", after := #[{ on := 10, ground := Go.Ground.data }, { on := 18, ground := Go.Ground.data }], guard := none }
abbrev oV_20 : Oper := { dst := none, op := Go.Op.mapUpdate 79 (Go.Operand.tmp 30) (Go.Operand.tmp 31) (Go.Operand.tmp 46), type := 0, pos := "oplog.go:229", after := #[{ on := 3, ground := Go.Ground.data }, { on := 4, ground := Go.Ground.data }, { on := 19, ground := Go.Ground.data }, { on := 19, ground := Go.Ground.chain }, { on := 0, ground := Go.Ground.phase }, { on := 1, ground := Go.Ground.phase }, { on := 2, ground := Go.Ground.phase }, { on := 3, ground := Go.Ground.phase }, { on := 4, ground := Go.Ground.phase }, { on := 5, ground := Go.Ground.phase }, { on := 6, ground := Go.Ground.phase }, { on := 7, ground := Go.Ground.phase }, { on := 8, ground := Go.Ground.phase }, { on := 9, ground := Go.Ground.phase }, { on := 10, ground := Go.Ground.phase }, { on := 11, ground := Go.Ground.phase }, { on := 12, ground := Go.Ground.phase }, { on := 13, ground := Go.Ground.phase }, { on := 14, ground := Go.Ground.phase }, { on := 15, ground := Go.Ground.phase }, { on := 16, ground := Go.Ground.phase }, { on := 17, ground := Go.Ground.phase }, { on := 18, ground := Go.Ground.phase }, { on := 19, ground := Go.Ground.phase }], guard := none }
set_option maxHeartbeats 4000000 in
theorem keepVer_any {w0 w : World} {b c wb now : Nat} {s : St} {l : List Whl.ItemN} {x : Pl} {g : Lo} {M : List Nat} {PP : World → Prop} (h : Lx w0 w b s c wb now l x g M PP) {T0 : List Tm} {id : Int} (hl : WIn l T0) (ht0 : T0.length ≤ 16) (ho : ∀ i, i ≠ id → valT s.T i = valT T0 i)
    (hd : ∀ t ∈ s.T, 0 ≤ t.due ∧ t.due ≤ 1099511627776) (hid : i64 id) (hn : g.ops.length ≤ 100000) (hv : (g.ver id).length ≤ 100000) :
    Calls Tryz.prog 33 #[.pointer (some ⟨x.lb, 0, none⟩), .int .i64 id, tmV (valT T0 id)] w fun e w' => e = .returned (.tuple #[]) ∧ ∃ vt' l', WIn l' s.T ∧ Lx w0 w' b s c wb now l' { x with vt := vt' } (keepV g T0 s.T id) M PP := by
  replace h := Lib.hid h
  by_cases hq : valT s.T id = valT T0 id
  · have hg : keepV g T0 s.T id = g := if_pos hq
    have hW : Hid (WIn l s.T) := hl.same fun i => by
      by_cases e : i = id
      · rw [e, hq]
      · rw [ho i e]
    rw [hg]
    have hx : Hid ({ x with vt := x.vt } = x) := rfl
    have heq := teq_yes (valT T0 id)
    have h1 := Lib.hid (h.out.alloc (.cells #[.int .i64 (valT T0 id).id, .int .i64 (valT T0 id).client, .int .i64 (valT T0 id).gen, .int .i64 (valT T0 id).due, .string (valT T0 id).cron] 55))
    have hgt := Lib.hid (h1.out.lw.get id hid)
    rw [hq] at hgt
    have hb := h.out.lp.box
    have hlb := lt_in hb
    have hB : Hid (∀ W, Below w.heap.size w W → W.cell? ⟨x.lb, 0, none⟩ = some (.pointer (some ⟨b, 0, none⟩))) := fun W k => cell_in ((k.block _ hlb).trans hb) 0
    generalize valT T0 id = tm at *
    obtain ⟨ti, tc, tg, td, tx⟩ := tm
    simp only at *
    have h2 : Hid (∀ W, Below (w.alloc (.cells #[.int .i64 ti, .int .i64 tc, .int .i64 tg, .int .i64 td, .string tx] 55)).heap.size (w.alloc (.cells #[.int .i64 ti, .int .i64 tc, .int .i64 tg, .int .i64 td, .string tx] 55)) W → Lx w0 W b s c wb now l x g M PP) := fun W k => h1.out.below k
    have hp := hB.out _ ((Below.refl w.heap.size w).alloc (Nat.le_refl _) (.cells #[.int .i64 ti, .int .i64 tc, .int .i64 tg, .int .i64 td, .string tx] 55))
    have hbx := Go.heap_alloc_new w (.cells #[.int .i64 ti, .int .i64 tc, .int .i64 tg, .int .i64 td, .string tx] 55)
    clear hb hl ho hd hq hid hv hn hB hg h h1 hlb
    go_enter Tryz.func33, Tryz.ntmps33
    go_wp2_with fail
    refine hgt.out.mono ?_
    rintro e w2 ⟨rfl, B2⟩
    have h3 := Lib.hid (h2.out w2 B2)
    have hbx2 := (Go.heap_alloc_old (w := w2) (o := .cells #[.int .i64 ti, .int .i64 tc, .int .i64 tg, .int .i64 td, .string tx] 55) (lt_in ((B2.block _ (lt_in hbx)).trans hbx))).trans ((B2.block _ (lt_in hbx)).trans hbx)
    have p0 := cell_in hbx2 0
    have p1 := cell_in hbx2 1
    have p2 := cell_in hbx2 2
    have p3 := cell_in hbx2 3
    have p4 := cell_in hbx2 4
    clear hbx2
    replace B2 := Lib.hid B2
    clear hgt h2 hp hbx
    go_wp2_with fail
    refine bodyPost_ret (results_none rfl _ _ _) rfl ?_
    exact ⟨rfl, x.vt, l, hW.out, h3.out.alloc _⟩
  · have hg : keepV g T0 s.T id = { g with ver := verPut g.ver id (g.ops.length, readT s.T id) } := if_neg hq
    rw [hg]
    have heq := teq_no (valT s.T id) (valT T0 id) hq
    have hset : Hid (∀ {W : World} {L : List Nat} {P : World → Prop}, 0 < (valT s.T id).due → Lw w0 W b s c wb now l L P → Calls Tryz.prog 52 #[.pointer (some ⟨wb, 0, none⟩), .int .i64 id, .int .i64 (valT s.T id).due] W fun e w' => (∃ v, e = .returned v) ∧ ∃ l', WIn l' s.T ∧ Lw w0 w' b s c wb now l' L P) := fun k H => H.wheelSet hl ht0 ho hd k
    have hout : Hid (∀ {W : World} {L : List Nat} {P : World → Prop}, (valT s.T id).due ≤ 0 → Lw w0 W b s c wb now l L P → Calls Tryz.prog 53 #[.pointer (some ⟨wb, 0, none⟩), .int .i64 id] W fun e w' => (∃ v, e = .returned v) ∧ ∃ l', WIn l' s.T ∧ Lw w0 w' b s c wb now l' L P) := fun k H => H.wheelOut hl ho hid k
    have h1 := Lib.hid (h.out.alloc (.cells #[.int .i64 (valT T0 id).id, .int .i64 (valT T0 id).client, .int .i64 (valT T0 id).gen, .int .i64 (valT T0 id).due, .string (valT T0 id).cron] 55))
    have hgt := Lib.hid (h1.out.lw.get id hid)
    have hb := h.out.lp.box
    have hlb := lt_in hb
    have hrd : readT s.T id = ⟨getE s.T id, (valT s.T id).gen, (valT s.T id).due⟩ := rfl
    rw [hrd]
    clear hrd hg
    clear hl ho hd ht0 hq
    generalize getE s.T id = ae at *
    generalize valT T0 id = tm at *
    generalize valT s.T id = ta at *
    obtain ⟨ti, tc, tg, td, tx⟩ := tm
    obtain ⟨ai, ac, ag, ad, ax⟩ := ta
    simp only at *
    have h2 : Hid (∀ W, Below (w.alloc (.cells #[.int .i64 ti, .int .i64 tc, .int .i64 tg, .int .i64 td, .string tx] 55)).heap.size (w.alloc (.cells #[.int .i64 ti, .int .i64 tc, .int .i64 tg, .int .i64 td, .string tx] 55)) W → Lx w0 W b s c wb now l x g M PP) := fun W k => h1.out.below k
    have hp := cell_in (((Below.refl w.heap.size w).alloc (Nat.le_refl _) (.cells #[.int .i64 ti, .int .i64 tc, .int .i64 tg, .int .i64 td, .string tx] 55)).block _ hlb |>.trans hb) 0
    have hbx := Go.heap_alloc_new w (.cells #[.int .i64 ti, .int .i64 tc, .int .i64 tg, .int .i64 td, .string tx] 55)
    clear hb h h1 hlb
    go_enter Tryz.func33, Tryz.ntmps33
    go_wp2_with fail
    refine hgt.out.mono ?_
    rintro e w2 ⟨rfl, B2⟩
    have h3 := Lib.hid (h2.out w2 B2)
    have hbx2 := (Go.heap_alloc_old (w := w2) (o := .cells #[.int .i64 ai, .int .i64 ac, .int .i64 ag, .int .i64 ad, .string ax] 55) (lt_in ((B2.block _ (lt_in hbx)).trans hbx))).trans ((B2.block _ (lt_in hbx)).trans hbx)
    have p0 := cell_in hbx2 0
    have p1 := cell_in hbx2 1
    have p2 := cell_in hbx2 2
    have p3 := cell_in hbx2 3
    have p4 := cell_in hbx2 4
    clear hbx2
    replace B2 := Lib.hid B2
    clear hgt h2 hp hbx
    go_upto_region 4 with fail
    have hA : ((w2.alloc (.cells #[.int .i64 ai, .int .i64 ac, .int .i64 ag, .int .i64 ad, .string ax] 55)).alloc (.cells #[.int .i64 ae, .int .i64 ag, .int .i64 ad] 34)).heap[w2.heap.size]? = some (.cells #[.int .i64 ai, .int .i64 ac, .int .i64 ag, .int .i64 ad, .string ax] 55) := (Go.heap_alloc_old _ _ (by simp)).trans (Go.heap_alloc_new w2 _)
    have hR : ((w2.alloc (.cells #[.int .i64 ai, .int .i64 ac, .int .i64 ag, .int .i64 ad, .string ax] 55)).alloc (.cells #[.int .i64 ae, .int .i64 ag, .int .i64 ad] 34)).heap[w2.heap.size + 1]? = some (.cells #[.int .i64 ae, .int .i64 ag, .int .i64 ad] 34) := by
      have := Go.heap_alloc_new (w2.alloc (.cells #[.int .i64 ai, .int .i64 ac, .int .i64 ag, .int .i64 ad, .string ax] 55)) (.cells #[.int .i64 ae, .int .i64 ag, .int .i64 ad] 34)
      simpa using this
    have h4 := Lib.hid ((h3.out.tmp (.cells #[.int .i64 ai, .int .i64 ac, .int .i64 ag, .int .i64 ad, .string ax] 55)).alloc (.cells #[.int .i64 ae, .int .i64 ag, .int .i64 ad] 34))
    have st0 := h3.out.st
    clear h3 B2 p0 p1 p2 p3 p4 heq
    generalize (w2.alloc (.cells #[.int .i64 ai, .int .i64 ac, .int .i64 ag, .int .i64 ad, .string ax] 55)).alloc (.cells #[.int .i64 ae, .int .i64 ag, .int .i64 ad] 34) = w4 at *
    generalize w2.heap.size + 1 = qr at *
    generalize w2.heap.size = qa at *
    have H := h4.out.lp
    have hap := H.apart
    obtain ⟨q, cap, k1, k2, k3, k4⟩ := H.ver.look id hid
    have kv : Below w4.heap.size w4 (w4.alloc (.cells (verC (g.ops.length, ⟨ae, ag, ad⟩)) 96)) := (Below.refl _ _).alloc (Nat.le_refl _) _
    obtain ⟨p', cap', w8, w9, r8, r9, hv9, hkp, hsz, hos, hnew⟩ := H.ver.push (W := (w4.alloc (.cells (verC (g.ops.length, ⟨ae, ag, ad⟩)) 96)).drew) id hid k1 k2 k3 hv (kv.block _ H.ver.lt.1) (fun g hg => kv.block _ (H.ver.lt.2 g hg).2) kv.size (Nat.le_trans h4.out.lw.bel.size kv.size) (g.ops.length, ⟨ae, ag, ad⟩) (vb := w4.heap.size) (Go.heap_alloc_new w4 _)
    have l4 := Lib.hid (k4 w4.drew rfl)
    have lB := Lib.hid (k4 (w4.alloc (.cells (verC (g.ops.length, ⟨ae, ag, ad⟩)) 96)).drew (kv.block _ H.ver.lt.1))
    have tt : ∀ {k : Nat} {T : TypeId} {a : Array Value} {z : Nat × Nat}, w4.heap[k]? = some (.cells a T z) → T ≠ 96 → k ∉ rowsOf x.vt ∧ k ≠ x.vr := fun e1 e2 => ⟨fun e => by
      obtain ⟨cur, hc⟩ := H.ver.type _ e
      rw [e1] at hc; injection hc with hc; injection hc with _ hc _; exact e2 hc, fun e => by
      subst e
      exact map_no e1 H.ver.map rfl⟩
    have hold : ∀ {k : Nat} {T : TypeId} {a : Array Value} {z : Nat × Nat}, w4.heap[k]? = some (.cells a T z) → T ≠ 96 → (w4.alloc (.cells (verC (g.ops.length, ⟨ae, ag, ad⟩)) 96)).drew.heap[k]? = some (.cells a T z) ∧ w8.heap[k]? = some (.cells a T z) ∧ w9.heap[k]? = some (.cells a T z) := fun {k} {T} {a} {z} e1 e2 => by
      have e3 := tt e1 e2
      have e4 := kv.block k (lt_in e1)
      have e5 := hkp k (Nat.lt_of_lt_of_le (lt_in e1) kv.size) e3.1
      exact ⟨e4.trans e1, e5.1.trans (e4.trans e1), (e5.2 e3.2).trans (e4.trans e1)⟩
    have oB := hold H.box (by decide)
    have oR := hold hR (by decide)
    have oA := hold hA (by decide)
    have sF : ∀ W : World, W.heap[x.lb]? = some (.cells (logC x g b wb) 81) → W.heap[qr]? = some (.cells #[.int .i64 ae, .int .i64 ag, .int .i64 ad] 34) → (W.cell? ⟨x.lb, 5, none⟩ = some (.map (some x.vr)) ∧ W.cell? ⟨x.lb, 2, none⟩ = some (.slice x.op g.ops.length x.oc) ∧ W.cell? ⟨qr, 0, none⟩ = some (.int .i64 ae) ∧ W.cell? ⟨qr, 1, none⟩ = some (.int .i64 ag) ∧ W.cell? ⟨qr, 2, none⟩ = some (.int .i64 ad)) := fun W e1 e2 =>
      ⟨cell_in e1 5, cell_in e1 2, cell_in e2 0, cell_in e2 1, cell_in e2 2⟩
    have s4 := sF w4 H.box hR
    have sB := sF _ oB.1 oR.1
    have s8 := sF w8 oB.2.1 oR.2.1
    have s9 := sF w9 oB.2.2 oR.2.2
    have d9 := cell_in oA.2.2 3
    have c1 := cell_in oB.2.2 1
    have h9 : Hid (Lx w0 w9 b s c wb now l { x with vt := vtPut x.vt id (.slice p' ((g.ver id).length + 1) cap') } { g with ver := verPut g.ver id (g.ops.length, ⟨ae, ag, ad⟩) } (qa :: M) (fun W => W.heap[qa]? = some (.cells #[.int .i64 ai, .int .i64 ac, .int .i64 ag, .int .i64 ad, .string ax] 55) ∧ PP W)) := by
      have hk9 : ∀ k, k < w4.heap.size → k ∉ rowsOf x.vt → k ≠ x.vr → w9.heap[k]? = w4.heap[k]? := fun k e1 e2 e3 => ((hkp k (Nat.lt_of_lt_of_le e1 kv.size) e2).2 e3).trans (kv.block k e1)
      have q9 : LP w0.heap.size w9 b wb { x with vt := vtPut x.vt id (.slice p' ((g.ver id).length + 1) cap') } { g with ver := verPut g.ver id (g.ops.length, ⟨ae, ag, ad⟩) } := by
        refine ⟨oB.2.2, H.ops.kept fun k e => hk9 k (H.ops.lt k e).2 ?_ ?_, H.rps.kept fun k e => hk9 k (H.rps.lt k e).2 ?_ ?_, H.req.kept (hk9 _ H.req.lt ?_ ?_), H.rok, hv9, H.fir.kept fun k e => hk9 k (H.fir.lt k e).2 ?_ ?_, H.two⟩
        · exact (hap.2.1 k e).2.2.2.1
        · exact (hap.2.1 k e).2.2.1
        · exact (hap.2.2.1 k e).2.2.1
        · exact (hap.2.2.1 k e).2.1
        · exact hap.2.2.2.1.1
        · exact H.two
        · exact fun e2 => hap.2.2.2.2.2 k e2 e
        · exact fun e2 => hap.2.2.2.2.1.2 (e2 ▸ e)
      refine h4.out.own ⟨hos.1.trans kv.os, hos.2.1.trans kv.tape, hos.2.2.trans kv.output, Nat.le_trans kv.size hsz.2, fun k e1 e2 => hk9 k e1 (fun e => e2 (mem_ownL.2 (.inr (.inr (.inr (.inr (.inr (.inl e)))))))) (fun e => e2 (mem_ownL.2 (.inr (.inr (.inr (.inr (.inl e)))))))⟩ q9 (fun k e => ?_)
      rcases mem_ownL.1 e with e | e | e | e | e | e | e
      · exact .inl (mem_ownL.2 (.inl e))
      · exact .inl (mem_ownL.2 (.inr (.inl e)))
      · exact .inl (mem_ownL.2 (.inr (.inr (.inl e))))
      · exact .inl (mem_ownL.2 (.inr (.inr (.inr (.inl e)))))
      · exact .inl (mem_ownL.2 (.inr (.inr (.inr (.inr (.inl e))))))
      · rcases hnew k e with f | f
        · exact .inl (mem_ownL.2 (.inr (.inr (.inr (.inr (.inr (.inl f)))))))
        · exact .inr (Nat.le_trans kv.size f)
      · exact .inl (mem_ownL.2 (.inr (.inr (.inr (.inr (.inr (.inr e)))))))
    replace r8 := Lib.hid r8
    replace r9 := Lib.hid r9
    clear sF oB oR oA hold tt hv9 hkp hsz hos hnew kv k1 k2 k3 k4 H hap hA hR h4
    refine wp_region_noPanic ?_
    refine wp_region_held_drew (S := fun w' => w'.cell? ⟨x.lb, 5, none⟩ = some (.map (some x.vr)) ∧ w'.cell? ⟨x.lb, 2, none⟩ = some (.slice x.op g.ops.length x.oc) ∧ w'.cell? ⟨qr, 0, none⟩ = some (.int .i64 ae) ∧ w'.cell? ⟨qr, 1, none⟩ = some (.int .i64 ag) ∧ w'.cell? ⟨qr, 2, none⟩ = some (.int .i64 ad)) (by kernel_rfl) ?hS0 (fun hHeld => ?_)
    case hS0 => ((try dsimp only); exact s4)
    refine wpAnyH_take (i := 0) (oi := oV_0) (v := ?v1) rfl (by kernel_rfl) (by kernel_rfl) (by kernel_rfl) (fun _ _ _ h => h) (Or.inl ⟨by rfl, ?y1⟩) (by assumption) ?r1
    case y1 => (intro w hSw; (try dsimp only at hSw); unfold oV_0; go_simp; try with_reducible rfl)
    simp only [oV_0, Act.put, List.setIfInBounds_toArray, List.set_cons_zero, List.set_cons_succ]
    refine wpAnyH_take (i := 4) (oi := oV_4) (v := ?v2) rfl (by kernel_rfl) (by kernel_rfl) (by kernel_rfl) (fun _ _ _ h => h) (Or.inl ⟨by rfl, ?y2⟩) (by assumption) ?r2
    case y2 => (intro w hSw; (try dsimp only at hSw); unfold oV_4; go_simp; try with_reducible rfl)
    simp only [oV_4, Act.put, List.setIfInBounds_toArray, List.set_cons_zero, List.set_cons_succ]
    refine wpAnyH_take (i := 5) (oi := oV_5) (v := ?v3) rfl (by kernel_rfl) (by kernel_rfl) (by kernel_rfl) (fun _ _ _ h => h) (Or.inl ⟨by rfl, ?y3⟩) (by assumption) ?r3
    case y3 => (intro w hSw; (try dsimp only at hSw); unfold oV_5; go_simp; try with_reducible rfl)
    simp only [oV_5, Act.put, List.setIfInBounds_toArray, List.set_cons_zero, List.set_cons_succ]
    refine wpAnyH_take (i := 9) (oi := oV_9) (v := ?v4) rfl (by kernel_rfl) (by kernel_rfl) (by kernel_rfl) (fun _ _ _ h => h) (Or.inl ⟨by rfl, ?y4⟩) (by assumption) ?r4
    case y4 => (intro w hSw; (try dsimp only at hSw); unfold oV_9; go_simp; try with_reducible rfl)
    simp only [oV_9, Act.put, List.setIfInBounds_toArray, List.set_cons_zero, List.set_cons_succ]
    refine wpAnyH_take (i := 11) (oi := oV_11) (v := ?v5) rfl (by kernel_rfl) (by kernel_rfl) (by kernel_rfl) (fun _ _ _ h => h) (Or.inl ⟨by rfl, ?y5⟩) (by assumption) ?r5
    case y5 => (intro w hSw; (try dsimp only at hSw); unfold oV_11; go_simp; try with_reducible rfl)
    simp only [oV_11, Act.put, List.setIfInBounds_toArray, List.set_cons_zero, List.set_cons_succ]
    refine wpAnyH_take (i := 16) (oi := oV_16) (v := ?v6) rfl (by kernel_rfl) (by kernel_rfl) (by kernel_rfl) (fun _ _ _ h => h) (Or.inl ⟨by rfl, ?y6⟩) (by assumption) ?r6
    case y6 => (intro w hSw; (try dsimp only at hSw); unfold oV_16; go_simp; try with_reducible rfl)
    simp only [oV_16, Act.put, List.setIfInBounds_toArray, List.set_cons_zero, List.set_cons_succ]
    refine wpAnyH_take (i := 1) (oi := oV_1) (v := ?v7) rfl (by kernel_rfl) (by kernel_rfl) (by kernel_rfl) (fun _ _ _ h => h) (Or.inl ⟨by rfl, ?y7⟩) (by assumption) ?r7
    case y7 => (intro w hSw; (try dsimp only at hSw); unfold oV_1; go_simp; try with_reducible rfl)
    simp only [oV_1, Act.put, List.setIfInBounds_toArray, List.set_cons_zero, List.set_cons_succ]
    refine wpAnyH_take (i := 6) (oi := oV_6) (v := ?v8) rfl (by kernel_rfl) (by kernel_rfl) (by kernel_rfl) (fun _ _ _ h => h) (Or.inl ⟨by rfl, ?y8⟩) (by assumption) ?r8
    case y8 => (intro w hSw; (try dsimp only at hSw); unfold oV_6; go_simp; try with_reducible rfl)
    simp only [oV_6, Act.put, List.setIfInBounds_toArray, List.set_cons_zero, List.set_cons_succ]
    refine wpAnyH_take (i := 12) (oi := oV_12) (v := ?v9) rfl (by kernel_rfl) (by kernel_rfl) (by kernel_rfl) (fun _ _ _ h => h) (Or.inl ⟨by rfl, ?y9⟩) (by assumption) ?r9
    case y9 => (intro w hSw; (try dsimp only at hSw); unfold oV_12; go_simp; try with_reducible rfl)
    simp only [oV_12, Act.put, List.setIfInBounds_toArray, List.set_cons_zero, List.set_cons_succ]
    refine wpAnyH_take (i := 2) (oi := oV_2) (v := ?v10) rfl (by kernel_rfl) (by kernel_rfl) (by kernel_rfl) (fun _ _ _ h => h) (Or.inl ⟨by rfl, ?y10⟩) (by assumption) ?r10
    case y10 => (intro w hSw; (try dsimp only at hSw); unfold oV_2; go_simp; try with_reducible rfl)
    simp only [oV_2, Act.put, List.setIfInBounds_toArray, List.set_cons_zero, List.set_cons_succ]
    refine wpAnyH_take (i := 7) (oi := oV_7) (v := ?v11) rfl (by kernel_rfl) (by kernel_rfl) (by kernel_rfl) (fun _ _ _ h => h) (Or.inl ⟨by rfl, ?y11⟩) (by assumption) ?r11
    case y11 => (intro w hSw; (try dsimp only at hSw); unfold oV_7; go_simp; try with_reducible rfl)
    simp only [oV_7, Act.put, List.setIfInBounds_toArray, List.set_cons_zero, List.set_cons_succ]
    refine wpAnyH_take (i := 13) (oi := oV_13) (v := ?v12) rfl (by kernel_rfl) (by kernel_rfl) (by kernel_rfl) (fun _ _ _ h => h) (Or.inl ⟨by rfl, ?y12⟩) (by assumption) ?r12
    case y12 => (intro w hSw; (try dsimp only at hSw); unfold oV_13; go_simp; try with_reducible rfl)
    simp only [oV_13, Act.put, List.setIfInBounds_toArray, List.set_cons_zero, List.set_cons_succ]
    refine wpAnyH_take (i := 3) (oi := oV_3) (v := ?v13) rfl (by kernel_rfl) (by kernel_rfl) (by kernel_rfl) (fun _ _ _ h => h) (Or.inl ⟨by rfl, ?y13⟩) (by assumption) ?r13
    case y13 => (intro w hSw; (try dsimp only at hSw); unfold oV_3; go_simp; try with_reducible rfl)
    simp only [oV_3, Act.put, List.setIfInBounds_toArray, List.set_cons_zero, List.set_cons_succ]
    refine wpAnyH_take (i := 8) (oi := oV_8) (v := ?v14) rfl (by kernel_rfl) (by kernel_rfl) (by kernel_rfl) (fun _ _ _ h => h) (Or.inl ⟨by rfl, ?y14⟩) (by assumption) ?r14
    case y14 => (intro w hSw; (try dsimp only at hSw); unfold oV_8; go_simp; try with_reducible rfl)
    simp only [oV_8, Act.put, List.setIfInBounds_toArray, List.set_cons_zero, List.set_cons_succ]
    refine wpAnyH_take (i := 14) (oi := oV_14) (v := ?v15) rfl (by kernel_rfl) (by kernel_rfl) (by kernel_rfl) (fun _ _ _ h => h) (Or.inl ⟨by rfl, ?y15⟩) (by assumption) ?r15
    case y15 => (intro w hSw; (try dsimp only at hSw); unfold oV_14; go_simp; try with_reducible rfl)
    simp only [oV_14, Act.put, List.setIfInBounds_toArray, List.set_cons_zero, List.set_cons_succ]
    refine wpAnyH_take (i := 15) (oi := oV_15) (v := ?v16) rfl (by kernel_rfl) (by kernel_rfl) (by kernel_rfl) (fun _ _ _ h => h) (Or.inl ⟨by rfl, ?y16⟩) (by assumption) ?r16
    case y16 => (intro w hSw; (try dsimp only at hSw); unfold oV_15; go_simp; try with_reducible rfl)
    simp only [oV_15, Act.put, List.setIfInBounds_toArray, List.set_cons_zero, List.set_cons_succ]
    refine wpAnyH_take (i := 17) (oi := oV_17) (v := ?v17) rfl (by kernel_rfl) (by kernel_rfl) (by kernel_rfl) (fun _ _ _ h => h) (Or.inl ⟨by rfl, ?y17⟩) (by assumption) ?r17
    case y17 => (intro w hSw; (try dsimp only at hSw); unfold oV_17; go_simp; try with_reducible rfl)
    simp only [oV_17, Act.put, List.setIfInBounds_toArray, List.set_cons_zero, List.set_cons_succ]
    refine wpAnyH_ready (rs := [10, 18]) (by kernel_rfl) (by simp) ?_
    refine AllReadyH.cons (o := oV_10) rfl (fun K hK => ?_) ?_
    · clear hHeld
      unfold oV_10
      have hl0 := l4.out
      go_simp
      clear hl0
      refine hK.out _ _ ?hS18 (fun hHeld => ?_)
      case hS18 => ((try dsimp only); exact s4)
      clear hK K
      try simp only [Act.put, List.setIfInBounds_toArray, List.set_cons_zero, List.set_cons_succ]
      refine wpAnyH_ready (rs := [18]) (by kernel_rfl) (by simp) ?_
      refine AllReadyH.cons (o := oV_18) rfl (fun K hK => ?_) ?_
      · clear hHeld
        unfold oV_18
        go_simp
        refine hK.out _ _ ?hS19 (fun hHeld => ?_)
        case hS19 => ((try dsimp only); exact sB)
        clear hK K
        try simp only [Act.put, List.setIfInBounds_toArray, List.set_cons_zero, List.set_cons_succ]
        refine wpAnyH_ready (rs := [19]) (by kernel_rfl) (by simp) ?_
        refine AllReadyH.cons (o := oV_19) rfl (fun K hK => ?_) ?_
        · clear hHeld
          unfold oV_19
          refine step_append_st (by rfl) _ _ 93 93 (by rfl) _ _ (by rfl) (by rfl) r8.out ?_
          refine hK.out _ _ ?hS20 (fun hHeld => ?_)
          case hS20 => ((try dsimp only); exact s8)
          clear hK K
          try simp only [Act.put, List.setIfInBounds_toArray, List.set_cons_zero, List.set_cons_succ]
          refine wpAnyH_ready (rs := [20]) (by kernel_rfl) (by simp) ?_
          refine AllReadyH.cons (o := oV_20) rfl (fun K hK => ?_) ?_
          · clear hHeld
            unfold oV_20
            have hu0 := r9.out
            go_simp
            clear hu0
            refine hK.out _ _ ?hS21 (fun hHeld => ?_)
            case hS21 => ((try dsimp only); exact s9)
            clear hK K
            try simp only [Act.put, List.setIfInBounds_toArray, List.set_cons_zero, List.set_cons_succ]
            refine wpAnyH_done (by kernel_rfl) ?_ _
            refine NoPanic.normal ?_
            clear hHeld
            clear s4 sB s8 s9 l4 lB r8 r9
            by_cases hpos : 0 < ad
            · go_upto_region 6 with fail
              go_region_held3 (fun w' => w'.cell? ⟨x.lb, 1, none⟩ = some (.pointer (some ⟨wb, 0, none⟩)) ∧ w'.cell? ⟨qa, 3, none⟩ = some (.int .i64 ad)) (first | exact ⟨c1, d9⟩ | exact ⟨c1z, d9z⟩) (first | (go_at_call 52; refine (hset.out hpos h9.out.drew.lw).mono ?_; rintro e wz ⟨⟨v, rfl⟩, l', hw, hz⟩; have c1z := cell_in hz.here.2.box 1; have d9z := cell_in hz.here.1.1 3; replace hw := Lib.hid hw; replace hz := Lib.hid (Lx.pop ⟨hz, h9.out.far, h9.out.st⟩ st0)))
              go_wp2_with fail
              go_end0
              exact ⟨rfl, _, l', hw.out, hz.out⟩
            · have hneg : ad ≤ 0 := by omega
              go_wp2_with fail
              refine (hout.out hneg h9.out.lw).mono ?_
              rintro e wz ⟨⟨v, rfl⟩, l', hw, hz⟩
              replace hw := Lib.hid hw
              replace hz := Lib.hid (Lx.pop ⟨hz, h9.out.far, h9.out.st⟩ st0)
              go_wp2_with fail
              go_end0
              exact ⟨rfl, _, l', hw.out, hz.out⟩
          exact AllReadyH.nil
        exact AllReadyH.nil
      exact AllReadyH.nil
    refine AllReadyH.cons (o := oV_18) rfl (fun K hK => ?_) ?_
    · clear hHeld
      unfold oV_18
      go_simp
      refine hK.out _ _ ?hS22 (fun hHeld => ?_)
      case hS22 => ((try dsimp only); exact sB)
      clear hK K
      try simp only [Act.put, List.setIfInBounds_toArray, List.set_cons_zero, List.set_cons_succ]
      refine wpAnyH_ready (rs := [10]) (by kernel_rfl) (by simp) ?_
      refine AllReadyH.cons (o := oV_10) rfl (fun K hK => ?_) ?_
      · clear hHeld
        unfold oV_10
        have hl0 := lB.out
        go_simp
        clear hl0
        refine hK.out _ _ ?hS23 (fun hHeld => ?_)
        case hS23 => ((try dsimp only); exact sB)
        clear hK K
        try simp only [Act.put, List.setIfInBounds_toArray, List.set_cons_zero, List.set_cons_succ]
        refine wpAnyH_ready (rs := [19]) (by kernel_rfl) (by simp) ?_
        refine AllReadyH.cons (o := oV_19) rfl (fun K hK => ?_) ?_
        · clear hHeld
          unfold oV_19
          refine step_append_st (by rfl) _ _ 93 93 (by rfl) _ _ (by rfl) (by rfl) r8.out ?_
          refine hK.out _ _ ?hS24 (fun hHeld => ?_)
          case hS24 => ((try dsimp only); exact s8)
          clear hK K
          try simp only [Act.put, List.setIfInBounds_toArray, List.set_cons_zero, List.set_cons_succ]
          refine wpAnyH_ready (rs := [20]) (by kernel_rfl) (by simp) ?_
          refine AllReadyH.cons (o := oV_20) rfl (fun K hK => ?_) ?_
          · clear hHeld
            unfold oV_20
            have hu0 := r9.out
            go_simp
            clear hu0
            refine hK.out _ _ ?hS25 (fun hHeld => ?_)
            case hS25 => ((try dsimp only); exact s9)
            clear hK K
            try simp only [Act.put, List.setIfInBounds_toArray, List.set_cons_zero, List.set_cons_succ]
            refine wpAnyH_done (by kernel_rfl) ?_ _
            refine NoPanic.normal ?_
            clear hHeld
            clear s4 sB s8 s9 l4 lB r8 r9
            by_cases hpos : 0 < ad
            · go_upto_region 6 with fail
              go_region_held3 (fun w' => w'.cell? ⟨x.lb, 1, none⟩ = some (.pointer (some ⟨wb, 0, none⟩)) ∧ w'.cell? ⟨qa, 3, none⟩ = some (.int .i64 ad)) (first | exact ⟨c1, d9⟩ | exact ⟨c1z, d9z⟩) (first | (go_at_call 52; refine (hset.out hpos h9.out.drew.lw).mono ?_; rintro e wz ⟨⟨v, rfl⟩, l', hw, hz⟩; have c1z := cell_in hz.here.2.box 1; have d9z := cell_in hz.here.1.1 3; replace hw := Lib.hid hw; replace hz := Lib.hid (Lx.pop ⟨hz, h9.out.far, h9.out.st⟩ st0)))
              go_wp2_with fail
              go_end0
              exact ⟨rfl, _, l', hw.out, hz.out⟩
            · have hneg : ad ≤ 0 := by omega
              go_wp2_with fail
              refine (hout.out hneg h9.out.lw).mono ?_
              rintro e wz ⟨⟨v, rfl⟩, l', hw, hz⟩
              replace hw := Lib.hid hw
              replace hz := Lib.hid (Lx.pop ⟨hz, h9.out.far, h9.out.st⟩ st0)
              go_wp2_with fail
              go_end0
              exact ⟨rfl, _, l', hw.out, hz.out⟩
          exact AllReadyH.nil
        exact AllReadyH.nil
      exact AllReadyH.nil
    exact AllReadyH.nil
end Go.Proofs.YtoihekgmomjhpaaGreatDoor
