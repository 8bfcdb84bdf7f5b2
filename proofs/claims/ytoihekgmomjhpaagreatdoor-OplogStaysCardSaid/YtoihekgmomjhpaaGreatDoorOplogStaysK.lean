/-
  OplogStays: a timer as it was behind some operations stays so, whatever is appended behind them. No condition but what the card lists.
-/
import Derived.Test.YtoihekgmomjhpaaGreatDoorKN5
import Derived.Test.YtoihekgmomjhpaaGreatDoorKT1
import Derived.Test.YtoihekgmomjhpaaGreatDoorKT2
import Derived.Test.YtoihekgmomjhpaaGreatDoorKO8
set_option linter.unusedVariables false
namespace Go.Proofs.YtoihekgmomjhpaaGreatDoor.oplogStays
open Go.ChangeShapes Go.WideShapes Go.ChangeAt Go.RowKit Go.MapKept Crn Nxt Ste
open Go.ChangeMaps (open_string shut_string)

set_option linter.unusedSimpArgs false
/-- What was read behind each operation, in order. -/
structure Was (n : Nat) (g : Lo) (id : Int) (wl : List Rp) : Prop where
  len : wl.length = n
  each : ∀ i (hi : i < wl.length), wl[i] = readN (g.ver id) ((i : Int) + 1)
theorem read_step {s : St} {g : Lo} {n : Nat} {o : OpN} {id : Int} {k : Int} (ok : Ok s) (hn : g.ops.length = n) (ok1 : Ok (applyN s o).1) (hk : k ≤ n) : readN ((appG g s o).ver id) k = readN (g.ver id) k := by
  rw [appG_ver ok o ok1, hn]
  unfold verN
  split
  · exact read_old _ _ hk
  · rfl
theorem Was.step {s : St} {g : Lo} {n : Nat} {o : OpN} {id : Int} {wl : List Rp} (h : Was n g id wl) (ok : Ok s) (hn : g.ops.length = n) (ok1 : Ok (applyN s o).1) : Was (n + 1) (appG g s o) id (wl ++ [readN ((appG g s o).ver id) ((n + 1 : Nat) : Int)]) := by
  refine ⟨by rw [List.length_append, h.len]; rfl, fun i hi => ?_⟩
  have hl := h.len
  by_cases e : i < wl.length
  · rw [List.getElem_append_left e, h.each i e, read_step ok hn ok1 (by omega)]
  · have e2 : i = wl.length := by simp at hi; omega
    subst e2
    simp only [List.getElem_concat_length]
    congr 1
    omega
theorem req_yes (r : Rp) (W : World) : (Op.equalIn 10000 34 (rpV r) (rpV r)).run Tryz.prog W = .ok true W := by
  rw [show (10000 : Nat) = 9999 + 1 from rfl, run_equalIn_agg W 9999 34 _ _ (by kernel_rfl) (by kernel_rfl)]
  simp [go_sem, Op.eqFields, part, Tryz.underlying3, Tryz.underlying32]
theorem newest_le {n : Nat} {V : List (Nat × Rp)} (h : Ris n V) : newestN V ≤ n := by
  unfold newestN
  cases hl : V.getLast? with
  | none => simp
  | some v => exact (h.2 v (List.mem_of_getLast? hl)).2
/-- What stays from round to round. -/
structure SI (w2 wr : World) (b wb lb : Nat) (id : Int) (m : Nat) (pw : Option Addr) (cq : Nat) (k : Nat) : Prop where
  ex : ∃ s c l x g wl, Lx w2 wr b s c wb 0 l x g (rowOf pw ++ []) (fun V => PRow w2.heap.size V pw cq wl ∧ True) ∧ Inv m s c l g ∧ Was m g id wl ∧ x.lb = lb
  le : m ≤ k
abbrev oS_0 : Oper := { dst := some 61, op := Go.Op.move (Go.Operand.tmp 7), type := 25, pos := "law.go:111", after := #[], guard := none }
abbrev oS_1 : Oper := { dst := some 62, op := Go.Op.move (Go.Operand.tmp 2), type := 3, pos := "law.go:111", after := #[], guard := none }
abbrev oS_2 : Oper := { dst := some 63, op := Go.Op.move (Go.Operand.tmp 14), type := 3, pos := "law.go:111", after := #[], guard := none }
abbrev oS_3 : Oper := { dst := some 64, op := Go.Op.binOp Go.BinOp.add 3 (Go.Operand.tmp 63) (Go.Operand.const (Go.Value.int Go.IntKind.i64 1)) 3, type := 3, pos := "law.go:111", after := #[{ on := 2, ground := Go.Ground.data }], guard := none }
abbrev oS_4 : Oper := { dst := some 65, op := Go.Op.call { callee := Go.Callee.value (Go.Operand.func 19), args := #[Go.Operand.tmp 61, Go.Operand.tmp 62, Go.Operand.tmp 64], argTypes := #[25, 3, 3] }, type := 34, pos := "law.go:111", after := #[{ on := 0, ground := Go.Ground.data }, { on := 1, ground := Go.Ground.data }, { on := 3, ground := Go.Ground.data }], guard := none }
abbrev oS_5 : Oper := { dst := some 66, op := Go.Op.load 34 (Go.Operand.tmp 15), type := 34, pos := "law.go:111", after := #[], guard := none }
abbrev oS_6 : Oper := { dst := some 67, op := Go.Op.binOp Go.BinOp.neq 34 (Go.Operand.tmp 65) (Go.Operand.tmp 66) 34, type := 4, pos := "law.go:111", after := #[{ on := 4, ground := Go.Ground.data }, { on := 5, ground := Go.Ground.data }], guard := none }
abbrev oS_7 : Oper := { dst := some 68, op := Go.Op.move (Go.Operand.tmp 67), type := 4, pos := "law.go:111", after := #[{ on := 6, ground := Go.Ground.data }, { on := 4, ground := Go.Ground.chain }], guard := none }
abbrev oS_8 : Oper := { dst := some 69, op := Go.Op.move (Go.Operand.tmp 7), type := 25, pos := "law.go:111", after := #[{ on := 7, ground := Go.Ground.guard }], guard := some (7, false) }
abbrev oS_9 : Oper := { dst := some 70, op := Go.Op.move (Go.Operand.tmp 2), type := 3, pos := "law.go:111", after := #[{ on := 7, ground := Go.Ground.guard }], guard := some (7, false) }
abbrev oS_10 : Oper := { dst := some 71, op := Go.Op.call { callee := Go.Callee.value (Go.Operand.func 24), args := #[Go.Operand.tmp 69, Go.Operand.tmp 70], argTypes := #[25, 3] }, type := 3, pos := "law.go:111", after := #[{ on := 8, ground := Go.Ground.data }, { on := 9, ground := Go.Ground.data }, { on := 7, ground := Go.Ground.chain }, { on := 7, ground := Go.Ground.guard }], guard := some (7, false) }
abbrev oS_11 : Oper := { dst := some 72, op := Go.Op.move (Go.Operand.tmp 14), type := 3, pos := "law.go:111", after := #[{ on := 7, ground := Go.Ground.guard }], guard := some (7, false) }
abbrev oS_12 : Oper := { dst := some 73, op := Go.Op.binOp Go.BinOp.add 3 (Go.Operand.tmp 72) (Go.Operand.const (Go.Value.int Go.IntKind.i64 1)) 3, type := 3, pos := "law.go:111", after := #[{ on := 11, ground := Go.Ground.data }, { on := 7, ground := Go.Ground.guard }], guard := some (7, false) }
abbrev oS_13 : Oper := { dst := some 74, op := Go.Op.binOp Go.BinOp.leq 3 (Go.Operand.tmp 71) (Go.Operand.tmp 73) 3, type := 4, pos := "law.go:111", after := #[{ on := 10, ground := Go.Ground.data }, { on := 12, ground := Go.Ground.data }, { on := 7, ground := Go.Ground.guard }], guard := some (7, false) }
abbrev oS_14 : Oper := { dst := some 75, op := Go.Op.move (Go.Operand.tmp 74), type := 4, pos := "law.go:111", after := #[{ on := 13, ground := Go.Ground.data }, { on := 10, ground := Go.Ground.chain }, { on := 7, ground := Go.Ground.guard }], guard := some (7, false) }
abbrev oS_15 : Oper := { dst := some 76, op := Go.Op.load 34 (Go.Operand.tmp 15), type := 34, pos := "law.go:111", after := #[{ on := 14, ground := Go.Ground.guard }], guard := some (14, true) }
abbrev oS_16 : Oper := { dst := some 77, op := Go.Op.move (Go.Operand.tmp 8), type := 38, pos := "law.go:111", after := #[{ on := 14, ground := Go.Ground.guard }], guard := some (14, true) }
abbrev oS_17 : Oper := { dst := some 78, op := Go.Op.move (Go.Operand.tmp 8), type := 38, pos := "law.go:111", after := #[{ on := 14, ground := Go.Ground.guard }], guard := some (14, true) }
abbrev oS_18 : Oper := { dst := some 79, op := Go.Op.call { callee := Go.Callee.builtin Go.Builtin.len, args := #[Go.Operand.tmp 78], argTypes := #[38] }, type := 3, pos := "law.go:111", after := #[{ on := 17, ground := Go.Ground.data }, { on := 14, ground := Go.Ground.guard }], guard := some (14, true) }
abbrev oS_19 : Oper := { dst := some 80, op := Go.Op.binOp Go.BinOp.sub 3 (Go.Operand.tmp 79) (Go.Operand.const (Go.Value.int Go.IntKind.i64 1)) 3, type := 3, pos := "law.go:111", after := #[{ on := 18, ground := Go.Ground.data }, { on := 14, ground := Go.Ground.guard }], guard := some (14, true) }
abbrev oS_20 : Oper := { dst := some 81, op := Go.Op.indexAddr 38 (Go.Operand.tmp 77) (Go.Operand.tmp 80), type := 0, pos := "law.go:111", after := #[{ on := 16, ground := Go.Ground.data }, { on := 19, ground := Go.Ground.data }, { on := 14, ground := Go.Ground.guard }], guard := some (14, true) }
abbrev oS_21 : Oper := { dst := some 82, op := Go.Op.load 34 (Go.Operand.tmp 81), type := 34, pos := "law.go:111", after := #[{ on := 20, ground := Go.Ground.data }, { on := 14, ground := Go.Ground.guard }], guard := some (14, true) }
abbrev oS_22 : Oper := { dst := some 83, op := Go.Op.binOp Go.BinOp.neq 34 (Go.Operand.tmp 76) (Go.Operand.tmp 82) 34, type := 4, pos := "law.go:111", after := #[{ on := 15, ground := Go.Ground.data }, { on := 21, ground := Go.Ground.data }, { on := 14, ground := Go.Ground.guard }], guard := some (14, true) }
abbrev oS_23 : Oper := { dst := some 84, op := Go.Op.pick (Go.Operand.tmp 75) (Go.Operand.tmp 83) (Go.Operand.const (Go.Value.bool false)), type := 4, pos := "law.go:111", after := #[{ on := 14, ground := Go.Ground.data }, { on := 22, ground := Go.Ground.data }, { on := 7, ground := Go.Ground.guard }], guard := some (7, false) }
abbrev oS_24 : Oper := { dst := some 85, op := Go.Op.pick (Go.Operand.tmp 68) (Go.Operand.const (Go.Value.bool true)) (Go.Operand.tmp 84), type := 4, pos := "law.go:111", after := #[{ on := 7, ground := Go.Ground.data }, { on := 23, ground := Go.Ground.data }], guard := none }
set_option maxRecDepth 100000 in
set_option maxHeartbeats 16000000 in
theorem walk (timers : Int) (ht : i64 timers) (a : Option Addr) (n cap : Nat) (f : Nat → OpN) (id : Int) (hid : i64 id) (w : World) (tb : Tab w) (nt : NTab w) (hf : Ops w a n f) (hn : n ≤ 9223372036854775807) :
    Calls Tryz.prog 4 #[.int .i64 timers, .slice a n cap, .int .i64 id] w fun e w' => e = .returned (.bool true) ∧ Below w.heap.size w w' := by
  have hpos : topTab < w.heap.size := by
    have h1 := tb.size
    have h2 := nt.size
    unfold topTab
    omega
  have cw := Lib.hid (fun W (h : Below w.heap.size w W) => awake_any W (tb.below h) (nt.below h))
  have cf := Lib.hid (fun W (h : Below w.heap.size w W) => few_any W a n cap f (hf.keep h) hn)
  have hbru := Lib.hid nt.bru
  have qF := fieldRp9
  replace tb := Lib.hid tb
  replace nt := Lib.hid nt
  replace hf := Lib.hid hf
  replace hpos := Lib.hid hpos
  clear hn
  go_enter Tryz.func4, Tryz.ntmps4
  go_wp2_with fail
  refine (cw.out _ (Below.refl _ _)).mono ?_
  rintro e w1 ⟨rfl, k1⟩
  replace k1 := Lib.hid k1
  go_wp2_with fail
  refine (cf.out _ k1.out).mono ?_
  rintro e w2 ⟨⟨r, rfl, hr⟩, hw2⟩
  subst hw2
  by_cases hgo : r = true ∧ n ≤ 60
  · obtain ⟨rfl, hn60⟩ := hgo
    have hF := Lib.hid (hr rfl)
    have hgt : decide ((60 : Int) < (n : Int)) = false := by simp; omega
    clear hr cf cw
    have tb2 := Lib.hid (tb.out.below k1.out)
    have nt2 := Lib.hid (nt.out.below k1.out)
    have cN := Lib.hid (newLog_any timers ht w2 (Nat.lt_of_lt_of_le hpos.out k1.out.size) nt2.out.bru)
    have hf2 := Lib.hid (hf.out.keep k1.out)
    clear tb nt hf hbru
    go_wp2_with fail
    refine cN.out.mono ?_
    rintro e w3 ⟨b, wb, x, rfl, h3⟩
    have X3 : Hid (Lx w2 w3 b (newN timers) 0 wb 0 [] x g0 (rowOf none ++ []) (fun V => PRow w2.heap.size V none 0 [] ∧ True)) := h3.re (Kl.refl _ _) (fun i hi => by simp [rowOf, Value.ownBlock] at hi) ((stab_row rpC 34 3 w2.heap.size none 0 []).and (M := []) (fun _ _ _ _ h => h)) ⟨World.ownsRow_nil _ _ _ _, trivial⟩
    generalize hlb : x.lb = lb at *
    have I3 := Lib.hid (SI.mk (w2 := w2) (wr := w3) (id := id) (k := 0) ⟨newN timers, 0, [], x, g0, [], X3.out, inv_new timers, ⟨rfl, fun i hi => by simp at hi⟩, hlb⟩ (Nat.le_refl 0))
    clear h3 cN X3 hlb x
    go_wp2_with fail
    go_loopw [8, 33] (fun v8 v33 wr => ∃ (k m : Nat) (pw : Option Addr) (cq : Nat), v33 = .int .i64 k ∧ v8 = .slice pw m cq ∧ (k : Int) ≤ n ∧ Hid (SI w2 wr b wb lb id m pw cq k)) (fun _ v33 _ => ((n : Int) - intOf v33).toNat)
    case atStart => exact ⟨0, 0, none, 0, rfl, rfl, by omega, I3⟩
    case round =>
      obtain ⟨k, m, pw, cq, rfl, rfl, hk, hI⟩ := hrel
      obtain ⟨⟨s, c, l, x, g, wl, X, I, Wa, hlb⟩, hmk⟩ := hI.out
      clear I3 hI
      have hwl := Wa.len
      by_cases hlt : (k : Int) < n
      · obtain ⟨bo, off, rfl, z, c0, c1, c2, c3, c4, c5, c6, c7, c8, c9⟩ := (hf2.out.keep X.lw.bel).at k (by omega)
        have hok := Lib.hid (hF.out.ok (i := k) (by omega) z)
        have hwk : IntKind.i64.wrap ((k : Int) + 1) = (k : Int) + 1 := IntWalk.i64_in _ (by omega)
        clear z
        generalize f k = o at *
        have st0 : Hid (Stab (rowOf pw ++ []) (fun V => PRow w2.heap.size V pw cq wl ∧ True)) := X.st
        have hnx := Lib.hid (X.alloc (opO o))
        have X1 := Lib.hid (X.tmp (opO o))
        have hcell := op_cells (Go.heap_alloc_new wr (opO o))
        by_cases hcr : o.cron.size ≤ 256
        · have cA := X1.out.push I tb2.out nt2.out (by omega) o hok.out hcr
          rw [hlb] at cA
          replace cA := Lib.hid cA
          have Wa2 := Lib.hid (fun ok1 => Wa.step (o := o) X.lw.ok I.ops ok1)
          clear hnx X I Wa
          obtain ⟨p0, p1, p2, p3, p4, p5, p6, p7, p8, p9⟩ := hcell
          go_wp2_with fail
          refine cA.out.mono ?_
          rintro e w4 ⟨rfl, x4, l4, hlb4, X4, I4⟩
          have Wa4 := Wa2.out X4.lw.ok
          generalize appG g s o = g4 at *
          generalize (applyN s o).1 = s4 at *
          generalize (applyN s o).2 = rp at *
          obtain ⟨re, rg, rd⟩ := rp
          unfold rpV at *
          have X5 := (X4.pop st0.out).alloc (.cells #[.int .i64 re, .int .i64 rg, .int .i64 rd] 34)
          have hvl : (g4.ver id).length ≤ 100000 := by have := ris_len (I4.ris id); omega
          have hris := Lib.hid (I4.ris id)
          have cL := len_any X5.lp
          rw [I4.ops, hlb4] at cL
          replace cL := Lib.hid cL
          have cR := Lib.hid (fun W u (h : LP w2.heap.size W b wb x4 g4) => by
            have := read_any h id u hid hvl hris.out
            rw [hlb4] at this
            exact this)
          have cN := Lib.hid (fun W (h : LP w2.heap.size W b wb x4 g4) => by
            have := newest_any h id hid hvl
            rw [hlb4] at this
            exact this)
          replace X5 := Lib.hid X5
          replace I4 := Lib.hid I4
          replace hlb4 := Lib.hid hlb4
          clear cA Wa2 X1 X4 p0 p1 p2 p3 p4 p5 p6 p7 p8 p9 c0 c1 c2 c3 c4 c5 c6 c7 c8 c9 hvl
          go_wp2_with fail
          refine cL.out.mono ?_
          rintro e w5 ⟨rfl, h5⟩
          subst h5
          clear cL
          go_wp2_with fail
          refine (cR.out _ _ X5.out.lp).mono ?_
          rintro e w6 ⟨rfl, k6⟩
          have X6 := X5.out.below k6
          have em : ((m + 1 : Nat) : Int) = (m : Int) + 1 := by omega
          rw [em] at Wa4
          generalize hrr : readN (g4.ver id) ((m : Int) + 1) = rr at *
          obtain ⟨ve, vg, vd⟩ := rr
          unfold rpV at *
          obtain ⟨i0, hi0, hz0, hzs, hzb⟩ := info_parts infoRp
          have X7 := Lib.hid (X6.alloc (.cells (rpC ⟨ve, vg, vd⟩) 34))
          have hnw := Go.heap_alloc_new w6 (.cells (rpC ⟨ve, vg, vd⟩) 34)
          have hrow : Hid (World.ownsRow (w6.alloc (.cells (rpC ⟨ve, vg, vd⟩) 34)) w2.heap.size 34 3 (.slice pw m cq) m (flatS rpC wl)) := by
            have h6 : World.ownsRow _ w2.heap.size 34 3 (.slice pw wl.length cq) wl.length (flatS rpC wl) := X7.out.pp.1
            rw [hwl] at h6
            exact h6
          have hnews : Hid (∀ (j : Nat) (u : Value), (rpC ⟨ve, vg, vd⟩).toList[j]? = some u → (w6.alloc (.cells (rpC ⟨ve, vg, vd⟩) 34)).cell? ((⟨w6.heap.size, 0, none⟩ : Addr).add j) = some u) := fun j u hu => by
            rw [Addr.add_lit, Nat.zero_add]
            rw [Array.getElem?_toList] at hu
            exact (cell_in hnw j).trans hu
          have hbase : Hid (w2.heap.size ≤ (w6.alloc (.cells (rpC ⟨ve, vg, vd⟩) 34)).heap.size) := X7.out.lw.bel.size
          have hm1 : m ≤ 1000 := by omega
          clear hnw k6 X6 X5
          go_wp2_with (at_builtin; refine wpList_append_own_at _ rfl _ _ 38 rfl w2.heap.size 34 i0 _ 3 24 Tryz.underlying38 hi0 hz0 hzs hzb rfl (by decide) _ _ _ rfl hrow.out ⟨w6.heap.size, 0, none⟩ 1 1 (rpC ⟨ve, vg, vd⟩).toList rfl (by simp) hnews.out (rpC_one _) (by unfold maxLen; omega) (by omega) hbase.out ?_)
          intro v' w8 g8 gr8 _ ho8
          obtain ⟨p', cap', rfl, -, X8⟩ := Lx.more hwl X7.out (N := []) (QQ := fun _ => True) (fun _ _ _ _ h => h) (fun i hi => (List.not_mem_nil hi).elim) ⟨ve, vg, vd⟩ g8 gr8 (ho8.imp (fun e => e) fun e => e.trans (by simp))
          have hw2 : (wl ++ [(⟨ve, vg, vd⟩ : Rp)]).length = m + 1 := by rw [List.length_append, hwl]; rfl
          have hlast : Hid (∀ h, (wl ++ [(⟨ve, vg, vd⟩ : Rp)])[m]'h = ⟨ve, vg, vd⟩) := fun h => by simp [← hwl]
          generalize wl ++ [(⟨ve, vg, vd⟩ : Rp)] = wl2 at *
          replace X8 := Lib.hid X8
          replace Wa4 := Lib.hid Wa4
          clear g8 gr8 ho8 hrow hnews hbase X7 hi0 hz0 hzs hzb st0
          have hst : Hid (Stab (rowOf p' ++ []) (fun V => PRow w2.heap.size V p' cap' wl2 ∧ True)) := X8.out.st
          go_wp2_with fail
          go_loopw [56] (fun v56 wr => ∃ i : Nat, v56 = .int .i64 i ∧ (i : Int) ≤ m + 1 ∧ Hid (Lx w2 wr b s4 (c + 1) wb 0 l4 x4 g4 (rowOf p' ++ []) (fun V => PRow w2.heap.size V p' cap' wl2 ∧ True))) (fun v56 _ => ((m : Int) + 1 - intOf v56).toNat)
          case atStart => exact ⟨0, rfl, by omega, X8⟩
          case round =>
            obtain ⟨i, rfl, him, X⟩ := hrel
            clear X8
            by_cases hil : (i : Int) < m + 1
            · obtain ⟨gp, rfl, hat⟩ := X.out.pp.1.at (fun _ => rfl) i (by omega)
              obtain ⟨gp2, hgp2, hat2⟩ := X.out.pp.1.at (fun _ => rfl) m (by omega)
              injection hgp2 with hgp2
              injection hgp2 with hgp2
              subst hgp2
              have y0 := hat 0 _ rfl
              have y1 := hat 1 _ rfl
              have y2 := hat 2 _ rfl
              have hz := hlast.out (by omega)
              rw [hz] at hat2
              have z0 := hat2 0 _ rfl
              have z1 := hat2 1 _ rfl
              have z2 := hat2 2 _ rfl
              rw [Nat.add_zero] at y0 z0
              have hri : wl2[i]'(by omega) = readN (g4.ver id) ((i : Int) + 1) := Wa4.out.each i (by omega)
              have hsame : Hid ((newestN (g4.ver id) : Int) ≤ (i : Int) + 1 → wl2[i]'(by omega) = ⟨ve, vg, vd⟩) := fun e => by
                rw [hri, ← hrr]
                have := newest_le hris.out
                exact read_newest hris.out e (by omega)
              have cRi := Lib.hid (fun W (h : LP w2.heap.size W b wb x4 g4) => by
                have := cR.out W ((i : Int) + 1) h
                rw [← hri] at this
                exact this)
              clear hri hat hat2 hz
              generalize wl2[i]'(by omega) = r at *
              obtain ⟨r0, r1, r2⟩ := r
              have qE := fun W => req_yes ⟨r0, r1, r2⟩ W
              try dsimp only at y0 y1 y2 z0 z1 z2
              have Y := Lib.hid (X.out.tmp (.cells #[.int .i64 r0, .int .i64 r1, .int .i64 r2] 34)).drew
              have hw1 : IntKind.i64.wrap ((i : Int) + 1) = (i : Int) + 1 := IntWalk.i64_in _ (by omega)
              have hw3 : IntKind.i64.wrap ((m : Int) + 1 - 1) = (m : Int) := by rw [show (m : Int) + 1 - 1 = (m : Int) by omega]; exact IntWalk.i64_in _ (by omega)
              have hS : Hid (∀ V, Lx w2 V b s4 (c + 1) wb 0 l4 x4 g4 (wr.heap.size :: (rowOf (some ⟨gp, 0, none⟩) ++ [])) (fun V => V.heap[wr.heap.size]? = some (.cells #[.int .i64 r0, .int .i64 r1, .int .i64 r2] 34) ∧ PRow w2.heap.size V (some ⟨gp, 0, none⟩) cap' wl2 ∧ True) → (V.cell? ⟨wr.heap.size, 0, none⟩ = some (.int .i64 r0) ∧ V.cell? ⟨wr.heap.size, 1, none⟩ = some (.int .i64 r1) ∧ V.cell? ⟨wr.heap.size, 2, none⟩ = some (.int .i64 r2) ∧ V.cell? ⟨gp, m * 3, none⟩ = some (.int .i64 ve) ∧ V.cell? ⟨gp, m * 3 + 1, none⟩ = some (.int .i64 vg) ∧ V.cell? ⟨gp, m * 3 + 2, none⟩ = some (.int .i64 vd))) := fun V h => by
                obtain ⟨g3, e3, hat3⟩ := h.pp.2.1.at (fun _ => rfl) m (by omega)
                injection e3 with e3
                injection e3 with e3
                subst e3
                rw [hlast.out (by omega)] at hat3
                exact ⟨cell_in h.pp.1 0, cell_in h.pp.1 1, cell_in h.pp.1 2, hat3 0 _ rfl, hat3 1 _ rfl, hat3 2 _ rfl⟩
              have hw4 : IntKind.i64.wrap (m : Int) = (m : Int) := IntWalk.i64_in _ (by omega)
              clear X hw2
              have hm3 : ((m : Int) + 1 - 1).toNat = m := by omega
              by_cases hle : (newestN (g4.ver id) : Int) ≤ (i : Int) + 1
              · have hs := hsame.out hle
                injection hs with e0 e1 e2
                subst e0 e1 e2
                clear hsame
                generalize newestN (g4.ver id) = nw at *
                go_wp2_with fail
                refine wp_region_noPanic ?_
                refine wp_region_held_drew (S := (fun V => V.cell? ⟨wr.heap.size, 0, none⟩ = some (.int .i64 r0) ∧ V.cell? ⟨wr.heap.size, 1, none⟩ = some (.int .i64 r1) ∧ V.cell? ⟨wr.heap.size, 2, none⟩ = some (.int .i64 r2) ∧ V.cell? ⟨gp, m * 3, none⟩ = some (.int .i64 r0) ∧ V.cell? ⟨gp, m * 3 + 1, none⟩ = some (.int .i64 r1) ∧ V.cell? ⟨gp, m * 3 + 2, none⟩ = some (.int .i64 r2))) (by kernel_rfl) ?hSaoS_0 (fun hHeld => ?_)
                case hSaoS_0 => ((try dsimp only); exact (hS.out _ Y.out))
                refine wpAnyH_take (i := 0) (oi := oS_0) (v := ?vaoS_1) rfl (by kernel_rfl) (by kernel_rfl) (by kernel_rfl) (fun _ _ _ h => h) (Or.inl ⟨by rfl, ?yaoS_1⟩) (by assumption) ?raoS_1
                case yaoS_1 => (intro w hSw; (try dsimp only at hSw); unfold oS_0; go_simp; try with_reducible rfl)
                simp only [oS_0, Act.put, List.setIfInBounds_toArray, List.set_cons_zero, List.set_cons_succ]
                refine wpAnyH_take (i := 1) (oi := oS_1) (v := ?vaoS_2) rfl (by kernel_rfl) (by kernel_rfl) (by kernel_rfl) (fun _ _ _ h => h) (Or.inl ⟨by rfl, ?yaoS_2⟩) (by assumption) ?raoS_2
                case yaoS_2 => (intro w hSw; (try dsimp only at hSw); unfold oS_1; go_simp; try with_reducible rfl)
                simp only [oS_1, Act.put, List.setIfInBounds_toArray, List.set_cons_zero, List.set_cons_succ]
                refine wpAnyH_take (i := 2) (oi := oS_2) (v := ?vaoS_3) rfl (by kernel_rfl) (by kernel_rfl) (by kernel_rfl) (fun _ _ _ h => h) (Or.inl ⟨by rfl, ?yaoS_3⟩) (by assumption) ?raoS_3
                case yaoS_3 => (intro w hSw; (try dsimp only at hSw); unfold oS_2; go_simp; try with_reducible rfl)
                simp only [oS_2, Act.put, List.setIfInBounds_toArray, List.set_cons_zero, List.set_cons_succ]
                refine wpAnyH_take (i := 5) (oi := oS_5) (v := ?vaoS_4) rfl (by kernel_rfl) (by kernel_rfl) (by kernel_rfl) (fun _ _ _ h => h) (Or.inl ⟨by rfl, ?yaoS_4⟩) (by assumption) ?raoS_4
                case yaoS_4 => (intro w hSw; (try dsimp only at hSw); unfold oS_5; go_simp; try with_reducible rfl)
                simp only [oS_5, Act.put, List.setIfInBounds_toArray, List.set_cons_zero, List.set_cons_succ]
                refine wpAnyH_take (i := 3) (oi := oS_3) (v := ?vaoS_5) rfl (by kernel_rfl) (by kernel_rfl) (by kernel_rfl) (fun _ _ _ h => h) (Or.inl ⟨by rfl, ?yaoS_5⟩) (by assumption) ?raoS_5
                case yaoS_5 => (intro w hSw; (try dsimp only at hSw); unfold oS_3; go_simp; try with_reducible rfl)
                simp only [oS_3, Act.put, List.setIfInBounds_toArray, List.set_cons_zero, List.set_cons_succ]
                refine wpAnyH_ready (rs := [4]) (by kernel_rfl) (by simp) ?_
                refine AllReadyH.cons (o := oS_4) rfl (fun K hK => ?_) ?_
                · clear hHeld
                  unfold oS_4
                  go_simp
                  go_at_call 19
                  refine (cRi.out _ Y.out.lp).mono ?_
                  rintro e w8 ⟨rfl, k8⟩
                  replace Y := Lib.hid (Y.out.below k8)
                  clear k8
                  dsimp only
                  refine hK.out _ _ ?hSaoS_6 (fun hHeld => ?_)
                  case hSaoS_6 => ((try dsimp only); exact (hS.out _ Y.out))
                  clear hK K
                  try simp only [Act.put, List.setIfInBounds_toArray, List.set_cons_zero, List.set_cons_succ]
                  refine wpAnyH_take (i := 6) (oi := oS_6) (v := ?vaoS_7) rfl (by kernel_rfl) (by kernel_rfl) (by kernel_rfl) (fun _ _ _ h => h) (Or.inl ⟨by rfl, ?yaoS_7⟩) (by assumption) ?raoS_7
                  case yaoS_7 => (intro w hSw; (try dsimp only at hSw); unfold oS_6; go_simp; try with_reducible rfl)
                  simp only [oS_6, Act.put, List.setIfInBounds_toArray, List.set_cons_zero, List.set_cons_succ]
                  refine wpAnyH_take (i := 7) (oi := oS_7) (v := ?vaoS_8) rfl (by kernel_rfl) (by kernel_rfl) (by kernel_rfl) (fun _ _ _ h => h) (Or.inl ⟨by rfl, ?yaoS_8⟩) (by assumption) ?raoS_8
                  case yaoS_8 => (intro w hSw; (try dsimp only at hSw); unfold oS_7; go_simp; try with_reducible rfl)
                  simp only [oS_7, Act.put, List.setIfInBounds_toArray, List.set_cons_zero, List.set_cons_succ]
                  refine wpAnyH_take (i := 8) (oi := oS_8) (v := ?vaoS_9) rfl (by kernel_rfl) (by kernel_rfl) (by kernel_rfl) (fun _ _ _ h => h) (Or.inl ⟨by rfl, ?yaoS_9⟩) (by assumption) ?raoS_9
                  case yaoS_9 => (intro w hSw; (try dsimp only at hSw); unfold oS_8; go_simp; try with_reducible rfl)
                  simp only [oS_8, Act.put, List.setIfInBounds_toArray, List.set_cons_zero, List.set_cons_succ]
                  refine wpAnyH_take (i := 9) (oi := oS_9) (v := ?vaoS_10) rfl (by kernel_rfl) (by kernel_rfl) (by kernel_rfl) (fun _ _ _ h => h) (Or.inl ⟨by rfl, ?yaoS_10⟩) (by assumption) ?raoS_10
                  case yaoS_10 => (intro w hSw; (try dsimp only at hSw); unfold oS_9; go_simp; try with_reducible rfl)
                  simp only [oS_9, Act.put, List.setIfInBounds_toArray, List.set_cons_zero, List.set_cons_succ]
                  refine wpAnyH_take (i := 11) (oi := oS_11) (v := ?vaoS_11) rfl (by kernel_rfl) (by kernel_rfl) (by kernel_rfl) (fun _ _ _ h => h) (Or.inl ⟨by rfl, ?yaoS_11⟩) (by assumption) ?raoS_11
                  case yaoS_11 => (intro w hSw; (try dsimp only at hSw); unfold oS_11; go_simp; try with_reducible rfl)
                  simp only [oS_11, Act.put, List.setIfInBounds_toArray, List.set_cons_zero, List.set_cons_succ]
                  refine wpAnyH_take (i := 12) (oi := oS_12) (v := ?vaoS_12) rfl (by kernel_rfl) (by kernel_rfl) (by kernel_rfl) (fun _ _ _ h => h) (Or.inl ⟨by rfl, ?yaoS_12⟩) (by assumption) ?raoS_12
                  case yaoS_12 => (intro w hSw; (try dsimp only at hSw); unfold oS_12; go_simp; try with_reducible rfl)
                  simp only [oS_12, Act.put, List.setIfInBounds_toArray, List.set_cons_zero, List.set_cons_succ]
                  refine wpAnyH_ready (rs := [10]) (by kernel_rfl) (by simp) ?_
                  refine AllReadyH.cons (o := oS_10) rfl (fun K hK => ?_) ?_
                  · clear hHeld
                    unfold oS_10
                    go_simp
                    go_at_call 24
                    refine (cN.out _ Y.out.lp).mono ?_
                    rintro e w9 ⟨rfl, h9⟩
                    subst h9
                    dsimp only
                    refine hK.out _ _ ?hSaoS_13 (fun hHeld => ?_)
                    case hSaoS_13 => ((try dsimp only); exact (hS.out _ Y.out))
                    clear hK K
                    try simp only [Act.put, List.setIfInBounds_toArray, List.set_cons_zero, List.set_cons_succ]
                    refine wpAnyH_take (i := 13) (oi := oS_13) (v := ?vaoS_14) rfl (by kernel_rfl) (by kernel_rfl) (by kernel_rfl) (fun _ _ _ h => h) (Or.inl ⟨by rfl, ?yaoS_14⟩) (by assumption) ?raoS_14
                    case yaoS_14 => (intro w hSw; (try dsimp only at hSw); unfold oS_13; go_simp; try with_reducible rfl)
                    simp only [oS_13, Act.put, List.setIfInBounds_toArray, List.set_cons_zero, List.set_cons_succ]
                    refine wpAnyH_take (i := 14) (oi := oS_14) (v := ?vaoS_15) rfl (by kernel_rfl) (by kernel_rfl) (by kernel_rfl) (fun _ _ _ h => h) (Or.inl ⟨by rfl, ?yaoS_15⟩) (by assumption) ?raoS_15
                    case yaoS_15 => (intro w hSw; (try dsimp only at hSw); unfold oS_14; go_simp; try with_reducible rfl)
                    simp only [oS_14, Act.put, List.setIfInBounds_toArray, List.set_cons_zero, List.set_cons_succ]
                    refine wpAnyH_take (i := 15) (oi := oS_15) (v := ?vaoS_16) rfl (by kernel_rfl) (by kernel_rfl) (by kernel_rfl) (fun _ _ _ h => h) (Or.inl ⟨by rfl, ?yaoS_16⟩) (by assumption) ?raoS_16
                    case yaoS_16 => (intro w hSw; (try dsimp only at hSw); unfold oS_15; go_simp; try with_reducible rfl)
                    simp only [oS_15, Act.put, List.setIfInBounds_toArray, List.set_cons_zero, List.set_cons_succ]
                    refine wpAnyH_take (i := 16) (oi := oS_16) (v := ?vaoS_17) rfl (by kernel_rfl) (by kernel_rfl) (by kernel_rfl) (fun _ _ _ h => h) (Or.inl ⟨by rfl, ?yaoS_17⟩) (by assumption) ?raoS_17
                    case yaoS_17 => (intro w hSw; (try dsimp only at hSw); unfold oS_16; go_simp; try with_reducible rfl)
                    simp only [oS_16, Act.put, List.setIfInBounds_toArray, List.set_cons_zero, List.set_cons_succ]
                    refine wpAnyH_take (i := 17) (oi := oS_17) (v := ?vaoS_18) rfl (by kernel_rfl) (by kernel_rfl) (by kernel_rfl) (fun _ _ _ h => h) (Or.inl ⟨by rfl, ?yaoS_18⟩) (by assumption) ?raoS_18
                    case yaoS_18 => (intro w hSw; (try dsimp only at hSw); unfold oS_17; go_simp; try with_reducible rfl)
                    simp only [oS_17, Act.put, List.setIfInBounds_toArray, List.set_cons_zero, List.set_cons_succ]
                    refine wpAnyH_take (i := 18) (oi := oS_18) (v := ?vaoS_19) rfl (by kernel_rfl) (by kernel_rfl) (by kernel_rfl) (fun _ _ _ h => h) (Or.inl ⟨by rfl, ?yaoS_19⟩) (by assumption) ?raoS_19
                    case yaoS_19 => (intro w hSw; (try dsimp only at hSw); unfold oS_18; go_simp; try with_reducible rfl)
                    simp only [oS_18, Act.put, List.setIfInBounds_toArray, List.set_cons_zero, List.set_cons_succ]
                    refine wpAnyH_take (i := 19) (oi := oS_19) (v := ?vaoS_20) rfl (by kernel_rfl) (by kernel_rfl) (by kernel_rfl) (fun _ _ _ h => h) (Or.inl ⟨by rfl, ?yaoS_20⟩) (by assumption) ?raoS_20
                    case yaoS_20 => (intro w hSw; (try dsimp only at hSw); unfold oS_19; go_simp; try with_reducible rfl)
                    simp only [oS_19, Act.put, List.setIfInBounds_toArray, List.set_cons_zero, List.set_cons_succ]
                    refine wpAnyH_take (i := 20) (oi := oS_20) (v := ?vaoS_21) rfl (by kernel_rfl) (by kernel_rfl) (by kernel_rfl) (fun _ _ _ h => h) (Or.inl ⟨by rfl, ?yaoS_21⟩) (by assumption) ?raoS_21
                    case yaoS_21 => (intro w hSw; (try dsimp only at hSw); unfold oS_20; (have hmm : (m : Int) < (m : Int) + 1 := by omega); go_simp; try with_reducible rfl)
                    simp only [oS_20, Act.put, List.setIfInBounds_toArray, List.set_cons_zero, List.set_cons_succ]
                    refine wpAnyH_take (i := 21) (oi := oS_21) (v := ?vaoS_22) rfl (by kernel_rfl) (by kernel_rfl) (by kernel_rfl) (fun _ _ _ h => h) (Or.inl ⟨by rfl, ?yaoS_22⟩) (by assumption) ?raoS_22
                    case yaoS_22 => (intro w hSw; (try dsimp only at hSw); unfold oS_21; go_simp; try with_reducible rfl)
                    simp only [oS_21, Act.put, List.setIfInBounds_toArray, List.set_cons_zero, List.set_cons_succ]
                    refine wpAnyH_take (i := 22) (oi := oS_22) (v := ?vaoS_23) rfl (by kernel_rfl) (by kernel_rfl) (by kernel_rfl) (fun _ _ _ h => h) (Or.inl ⟨by rfl, ?yaoS_23⟩) (by assumption) ?raoS_23
                    case yaoS_23 => (intro w hSw; (try dsimp only at hSw); unfold oS_22; go_simp; try with_reducible rfl)
                    simp only [oS_22, Act.put, List.setIfInBounds_toArray, List.set_cons_zero, List.set_cons_succ]
                    refine wpAnyH_take (i := 23) (oi := oS_23) (v := ?vaoS_24) rfl (by kernel_rfl) (by kernel_rfl) (by kernel_rfl) (fun _ _ _ h => h) (Or.inl ⟨by rfl, ?yaoS_24⟩) (by assumption) ?raoS_24
                    case yaoS_24 => (intro w hSw; (try dsimp only at hSw); unfold oS_23; go_simp; try with_reducible rfl)
                    simp only [oS_23, Act.put, List.setIfInBounds_toArray, List.set_cons_zero, List.set_cons_succ]
                    refine wpAnyH_take (i := 24) (oi := oS_24) (v := ?vaoS_25) rfl (by kernel_rfl) (by kernel_rfl) (by kernel_rfl) (fun _ _ _ h => h) (Or.inl ⟨by rfl, ?yaoS_25⟩) (by assumption) ?raoS_25
                    case yaoS_25 => (intro w hSw; (try dsimp only at hSw); unfold oS_24; go_simp; try with_reducible rfl)
                    simp only [oS_24, Act.put, List.setIfInBounds_toArray, List.set_cons_zero, List.set_cons_succ]
                    refine wpAnyH_done (by kernel_rfl) ?_ _
                    refine NoPanic.normal ?_
                    clear hHeld
                    go_wp2_with fail
                    exact ⟨⟨i + 1, by go_num, by omega, Y.out.pop hst.out⟩, by simp [intOf]; omega⟩
                  exact AllReadyH.nil
                exact AllReadyH.nil
              · clear hsame
                generalize newestN (g4.ver id) = nw at *
                have hle2 : Hid (decide ((nw : Int) ≤ (i : Int) + 1) = false) := decide_eq_false hle
                go_wp2_with fail
                refine wp_region_noPanic ?_
                refine wp_region_held_drew (S := (fun V => V.cell? ⟨wr.heap.size, 0, none⟩ = some (.int .i64 r0) ∧ V.cell? ⟨wr.heap.size, 1, none⟩ = some (.int .i64 r1) ∧ V.cell? ⟨wr.heap.size, 2, none⟩ = some (.int .i64 r2) ∧ V.cell? ⟨gp, m * 3, none⟩ = some (.int .i64 ve) ∧ V.cell? ⟨gp, m * 3 + 1, none⟩ = some (.int .i64 vg) ∧ V.cell? ⟨gp, m * 3 + 2, none⟩ = some (.int .i64 vd))) (by kernel_rfl) ?hSboS_0 (fun hHeld => ?_)
                case hSboS_0 => ((try dsimp only); exact (hS.out _ Y.out))
                refine wpAnyH_take (i := 0) (oi := oS_0) (v := ?vboS_1) rfl (by kernel_rfl) (by kernel_rfl) (by kernel_rfl) (fun _ _ _ h => h) (Or.inl ⟨by rfl, ?yboS_1⟩) (by assumption) ?rboS_1
                case yboS_1 => (intro w hSw; (try dsimp only at hSw); unfold oS_0; go_simp; try with_reducible rfl)
                simp only [oS_0, Act.put, List.setIfInBounds_toArray, List.set_cons_zero, List.set_cons_succ]
                refine wpAnyH_take (i := 1) (oi := oS_1) (v := ?vboS_2) rfl (by kernel_rfl) (by kernel_rfl) (by kernel_rfl) (fun _ _ _ h => h) (Or.inl ⟨by rfl, ?yboS_2⟩) (by assumption) ?rboS_2
                case yboS_2 => (intro w hSw; (try dsimp only at hSw); unfold oS_1; go_simp; try with_reducible rfl)
                simp only [oS_1, Act.put, List.setIfInBounds_toArray, List.set_cons_zero, List.set_cons_succ]
                refine wpAnyH_take (i := 2) (oi := oS_2) (v := ?vboS_3) rfl (by kernel_rfl) (by kernel_rfl) (by kernel_rfl) (fun _ _ _ h => h) (Or.inl ⟨by rfl, ?yboS_3⟩) (by assumption) ?rboS_3
                case yboS_3 => (intro w hSw; (try dsimp only at hSw); unfold oS_2; go_simp; try with_reducible rfl)
                simp only [oS_2, Act.put, List.setIfInBounds_toArray, List.set_cons_zero, List.set_cons_succ]
                refine wpAnyH_take (i := 5) (oi := oS_5) (v := ?vboS_4) rfl (by kernel_rfl) (by kernel_rfl) (by kernel_rfl) (fun _ _ _ h => h) (Or.inl ⟨by rfl, ?yboS_4⟩) (by assumption) ?rboS_4
                case yboS_4 => (intro w hSw; (try dsimp only at hSw); unfold oS_5; go_simp; try with_reducible rfl)
                simp only [oS_5, Act.put, List.setIfInBounds_toArray, List.set_cons_zero, List.set_cons_succ]
                refine wpAnyH_take (i := 3) (oi := oS_3) (v := ?vboS_5) rfl (by kernel_rfl) (by kernel_rfl) (by kernel_rfl) (fun _ _ _ h => h) (Or.inl ⟨by rfl, ?yboS_5⟩) (by assumption) ?rboS_5
                case yboS_5 => (intro w hSw; (try dsimp only at hSw); unfold oS_3; go_simp; try with_reducible rfl)
                simp only [oS_3, Act.put, List.setIfInBounds_toArray, List.set_cons_zero, List.set_cons_succ]
                refine wpAnyH_ready (rs := [4]) (by kernel_rfl) (by simp) ?_
                refine AllReadyH.cons (o := oS_4) rfl (fun K hK => ?_) ?_
                · clear hHeld
                  unfold oS_4
                  go_simp
                  go_at_call 19
                  refine (cRi.out _ Y.out.lp).mono ?_
                  rintro e w8 ⟨rfl, k8⟩
                  replace Y := Lib.hid (Y.out.below k8)
                  clear k8
                  dsimp only
                  refine hK.out _ _ ?hSboS_6 (fun hHeld => ?_)
                  case hSboS_6 => ((try dsimp only); exact (hS.out _ Y.out))
                  clear hK K
                  try simp only [Act.put, List.setIfInBounds_toArray, List.set_cons_zero, List.set_cons_succ]
                  refine wpAnyH_take (i := 6) (oi := oS_6) (v := ?vboS_7) rfl (by kernel_rfl) (by kernel_rfl) (by kernel_rfl) (fun _ _ _ h => h) (Or.inl ⟨by rfl, ?yboS_7⟩) (by assumption) ?rboS_7
                  case yboS_7 => (intro w hSw; (try dsimp only at hSw); unfold oS_6; go_simp; try with_reducible rfl)
                  simp only [oS_6, Act.put, List.setIfInBounds_toArray, List.set_cons_zero, List.set_cons_succ]
                  refine wpAnyH_take (i := 7) (oi := oS_7) (v := ?vboS_8) rfl (by kernel_rfl) (by kernel_rfl) (by kernel_rfl) (fun _ _ _ h => h) (Or.inl ⟨by rfl, ?yboS_8⟩) (by assumption) ?rboS_8
                  case yboS_8 => (intro w hSw; (try dsimp only at hSw); unfold oS_7; go_simp; try with_reducible rfl)
                  simp only [oS_7, Act.put, List.setIfInBounds_toArray, List.set_cons_zero, List.set_cons_succ]
                  refine wpAnyH_take (i := 8) (oi := oS_8) (v := ?vboS_9) rfl (by kernel_rfl) (by kernel_rfl) (by kernel_rfl) (fun _ _ _ h => h) (Or.inl ⟨by rfl, ?yboS_9⟩) (by assumption) ?rboS_9
                  case yboS_9 => (intro w hSw; (try dsimp only at hSw); unfold oS_8; go_simp; try with_reducible rfl)
                  simp only [oS_8, Act.put, List.setIfInBounds_toArray, List.set_cons_zero, List.set_cons_succ]
                  refine wpAnyH_take (i := 9) (oi := oS_9) (v := ?vboS_10) rfl (by kernel_rfl) (by kernel_rfl) (by kernel_rfl) (fun _ _ _ h => h) (Or.inl ⟨by rfl, ?yboS_10⟩) (by assumption) ?rboS_10
                  case yboS_10 => (intro w hSw; (try dsimp only at hSw); unfold oS_9; go_simp; try with_reducible rfl)
                  simp only [oS_9, Act.put, List.setIfInBounds_toArray, List.set_cons_zero, List.set_cons_succ]
                  refine wpAnyH_take (i := 11) (oi := oS_11) (v := ?vboS_11) rfl (by kernel_rfl) (by kernel_rfl) (by kernel_rfl) (fun _ _ _ h => h) (Or.inl ⟨by rfl, ?yboS_11⟩) (by assumption) ?rboS_11
                  case yboS_11 => (intro w hSw; (try dsimp only at hSw); unfold oS_11; go_simp; try with_reducible rfl)
                  simp only [oS_11, Act.put, List.setIfInBounds_toArray, List.set_cons_zero, List.set_cons_succ]
                  refine wpAnyH_take (i := 12) (oi := oS_12) (v := ?vboS_12) rfl (by kernel_rfl) (by kernel_rfl) (by kernel_rfl) (fun _ _ _ h => h) (Or.inl ⟨by rfl, ?yboS_12⟩) (by assumption) ?rboS_12
                  case yboS_12 => (intro w hSw; (try dsimp only at hSw); unfold oS_12; go_simp; try with_reducible rfl)
                  simp only [oS_12, Act.put, List.setIfInBounds_toArray, List.set_cons_zero, List.set_cons_succ]
                  refine wpAnyH_ready (rs := [10]) (by kernel_rfl) (by simp) ?_
                  refine AllReadyH.cons (o := oS_10) rfl (fun K hK => ?_) ?_
                  · clear hHeld
                    unfold oS_10
                    go_simp
                    go_at_call 24
                    refine (cN.out _ Y.out.lp).mono ?_
                    rintro e w9 ⟨rfl, h9⟩
                    subst h9
                    dsimp only
                    refine hK.out _ _ ?hSboS_13 (fun hHeld => ?_)
                    case hSboS_13 => ((try dsimp only); exact (hS.out _ Y.out))
                    clear hK K
                    try simp only [Act.put, List.setIfInBounds_toArray, List.set_cons_zero, List.set_cons_succ]
                    refine wpAnyH_take (i := 13) (oi := oS_13) (v := ?vboS_14) rfl (by kernel_rfl) (by kernel_rfl) (by kernel_rfl) (fun _ _ _ h => h) (Or.inl ⟨by rfl, ?yboS_14⟩) (by assumption) ?rboS_14
                    case yboS_14 => (intro w hSw; (try dsimp only at hSw); unfold oS_13; (have hle3 : decide ((nw : Int) ≤ (i : Int) + 1) = false := hle2.out); go_simp; try with_reducible rfl)
                    simp only [oS_13, Act.put, List.setIfInBounds_toArray, List.set_cons_zero, List.set_cons_succ]
                    refine wpAnyH_take (i := 14) (oi := oS_14) (v := ?vboS_15) rfl (by kernel_rfl) (by kernel_rfl) (by kernel_rfl) (fun _ _ _ h => h) (Or.inl ⟨by rfl, ?yboS_15⟩) (by assumption) ?rboS_15
                    case yboS_15 => (intro w hSw; (try dsimp only at hSw); unfold oS_14; go_simp; try with_reducible rfl)
                    simp only [oS_14, Act.put, List.setIfInBounds_toArray, List.set_cons_zero, List.set_cons_succ]
                    refine wpAnyH_take (i := 15) (oi := oS_15) (v := undef) rfl (by kernel_rfl) (by kernel_rfl) (by kernel_rfl) (fun _ _ _ h => h) (Or.inr ⟨by rfl, rfl⟩) (by assumption) ?_
                    simp only [oS_15, Act.put, List.setIfInBounds_toArray, List.set_cons_zero, List.set_cons_succ]
                    refine wpAnyH_take (i := 16) (oi := oS_16) (v := undef) rfl (by kernel_rfl) (by kernel_rfl) (by kernel_rfl) (fun _ _ _ h => h) (Or.inr ⟨by rfl, rfl⟩) (by assumption) ?_
                    simp only [oS_16, Act.put, List.setIfInBounds_toArray, List.set_cons_zero, List.set_cons_succ]
                    refine wpAnyH_take (i := 17) (oi := oS_17) (v := undef) rfl (by kernel_rfl) (by kernel_rfl) (by kernel_rfl) (fun _ _ _ h => h) (Or.inr ⟨by rfl, rfl⟩) (by assumption) ?_
                    simp only [oS_17, Act.put, List.setIfInBounds_toArray, List.set_cons_zero, List.set_cons_succ]
                    refine wpAnyH_take (i := 18) (oi := oS_18) (v := undef) rfl (by kernel_rfl) (by kernel_rfl) (by kernel_rfl) (fun _ _ _ h => h) (Or.inr ⟨by rfl, rfl⟩) (by assumption) ?_
                    simp only [oS_18, Act.put, List.setIfInBounds_toArray, List.set_cons_zero, List.set_cons_succ]
                    refine wpAnyH_take (i := 19) (oi := oS_19) (v := undef) rfl (by kernel_rfl) (by kernel_rfl) (by kernel_rfl) (fun _ _ _ h => h) (Or.inr ⟨by rfl, rfl⟩) (by assumption) ?_
                    simp only [oS_19, Act.put, List.setIfInBounds_toArray, List.set_cons_zero, List.set_cons_succ]
                    refine wpAnyH_take (i := 20) (oi := oS_20) (v := undef) rfl (by kernel_rfl) (by kernel_rfl) (by kernel_rfl) (fun _ _ _ h => h) (Or.inr ⟨by rfl, rfl⟩) (by assumption) ?_
                    simp only [oS_20, Act.put, List.setIfInBounds_toArray, List.set_cons_zero, List.set_cons_succ]
                    refine wpAnyH_take (i := 21) (oi := oS_21) (v := undef) rfl (by kernel_rfl) (by kernel_rfl) (by kernel_rfl) (fun _ _ _ h => h) (Or.inr ⟨by rfl, rfl⟩) (by assumption) ?_
                    simp only [oS_21, Act.put, List.setIfInBounds_toArray, List.set_cons_zero, List.set_cons_succ]
                    refine wpAnyH_take (i := 22) (oi := oS_22) (v := undef) rfl (by kernel_rfl) (by kernel_rfl) (by kernel_rfl) (fun _ _ _ h => h) (Or.inr ⟨by rfl, rfl⟩) (by assumption) ?_
                    simp only [oS_22, Act.put, List.setIfInBounds_toArray, List.set_cons_zero, List.set_cons_succ]
                    refine wpAnyH_take (i := 23) (oi := oS_23) (v := ?vboS_24) rfl (by kernel_rfl) (by kernel_rfl) (by kernel_rfl) (fun _ _ _ h => h) (Or.inl ⟨by rfl, ?yboS_24⟩) (by assumption) ?rboS_24
                    case yboS_24 => (intro w hSw; (try dsimp only at hSw); unfold oS_23; go_simp; try with_reducible rfl)
                    simp only [oS_23, Act.put, List.setIfInBounds_toArray, List.set_cons_zero, List.set_cons_succ]
                    refine wpAnyH_take (i := 24) (oi := oS_24) (v := ?vboS_25) rfl (by kernel_rfl) (by kernel_rfl) (by kernel_rfl) (fun _ _ _ h => h) (Or.inl ⟨by rfl, ?yboS_25⟩) (by assumption) ?rboS_25
                    case yboS_25 => (intro w hSw; (try dsimp only at hSw); unfold oS_24; go_simp; try with_reducible rfl)
                    simp only [oS_24, Act.put, List.setIfInBounds_toArray, List.set_cons_zero, List.set_cons_succ]
                    refine wpAnyH_done (by kernel_rfl) ?_ _
                    refine NoPanic.normal ?_
                    clear hHeld
                    go_wp2_with fail
                    exact ⟨⟨i + 1, by go_num, by omega, Y.out.pop hst.out⟩, by simp [intOf]; omega⟩
                  exact AllReadyH.nil
                exact AllReadyH.nil
            · have hI5 := Lib.hid (SI.mk (k := k + 1) (cq := cap') (pw := p') (wr := wr) (w2 := w2) (b := b) (wb := wb) (lb := lb) (id := id) (m := m + 1) ⟨s4, c + 1, l4, x4, g4, wl2, X.out, I4.out, Wa4.out, hlb4.out⟩ (by omega))
              clear X
              go_wp2_with fail
              exact ⟨⟨k + 1, m + 1, p', cap', by go_num, by first | rfl | (congr 1), by omega, hI5⟩, by simp [intOf]; omega⟩
        · have cA := Lib.hid (appendLong_any X1.out.lp o (by rw [I.ops]; omega) (by omega))
          rw [hlb] at cA
          obtain ⟨p0, p1, p2, p3, p4, p5, p6, p7, p8, p9⟩ := hcell
          go_wp2_with fail
          refine cA.out.mono ?_
          rintro e w4 ⟨rfl, k4⟩
          have I5 := Lib.hid (SI.mk (k := k + 1) ⟨s, c, l, x, g, wl, (hnx.out.below k4).alloc (.cells #[.int .i64 0, .int .i64 0, .int .i64 0] 34), I, Wa, hlb⟩ (by omega))
          unfold rpV
          clear cA hnx X1 X I Wa p0 p1 p2 p3 p4 p5 p6 p7 p8 p9 c0 c1 c2 c3 c4 c5 c6 c7 c8 c9
          go_wp2_with fail
          exact ⟨⟨k + 1, m, pw, cq, by go_num, rfl, by omega, I5⟩, by simp [intOf]; omega⟩
      · have hris := Lib.hid (I.ris id)
        have hvl : (g.ver id).length ≤ 100000 := by have := ris_len (I.ris id); omega
        have cR0 := Lib.hid (read_any X.lp id 0 hid hvl hris.out)
        rw [hlb, read_zero hris.out (by omega)] at cR0
        have cR1 := Lib.hid (fun W (h : LP w2.heap.size W b wb x g) => by
          have := read_any h id (-1) hid hvl hris.out
          rw [hlb, read_zero hris.out (by omega)] at this
          exact this)
        unfold rpV at *
        replace X := Lib.hid X
        clear I Wa
        go_wp2_with fail
        refine cR0.out.mono ?_
        rintro e w4 ⟨rfl, k4⟩
        have X4 := Lib.hid (X.out.below k4)
        clear k4 cR0 X
        go_wp2_with fail
        refine (cR1.out _ X4.out.lp).mono ?_
        rintro e w5 ⟨rfl, k5⟩
        have X5 := Lib.hid (X4.out.below k5)
        clear k5 cR1 X4
        go_wp2_with fail
        go_ret
        exact ⟨rfl, k1.out.trans (X5.out.lw.bel.mono k1.out.size)⟩
  · clear cf
    cases r with
    | false =>
      go_wp2_with fail
      refine (cw.out _ k1.out).mono ?_
      rintro e w3 ⟨rfl, k3⟩
      go_wp2_with fail
      go_ret
      exact ⟨rfl, k1.out.trans (k3.mono k1.out.size)⟩
    | true =>
      have hn60 : (60 : Int) < (n : Int) := by
        have : ¬ n ≤ 60 := fun e => hgo ⟨rfl, e⟩
        omega
      clear hr
      go_wp2_with fail
      refine (cw.out _ k1.out).mono ?_
      rintro e w3 ⟨rfl, k3⟩
      go_wp2_with fail
      go_ret
      exact ⟨rfl, k1.out.trans (k3.mono k1.out.size)⟩


set_option maxRecDepth 100000 in
theorem contract (H : Type) (enc : TypeId × Value → H) (W : World) (base : Nat) (args : Array Value) (ds gs : List (DataW H)) (before : List MemPlace)
    (hval : ∀ (j : Nat) t v, Tryz.f4.params[j]? = some t → args[j]? = some v → Value.okWide Tryz.prog W .any base t v)
    (hW : DataW.Whole enc Tryz.prog Tryz.f4.params.toList Rows.oplogStaysSpec.vars false W args.toList ds gs before) (hL : laidMetH Tryz.prog Rows.oplogStaysRow.laid W) (hS : W.ShapedOpen Tryz.prog) :
    Calls Tryz.prog 4 args W fun e W' => ∃ v, e = .returned v ∧ Rows.oplogStaysSpec.post enc Tryz.prog Tryz.f4 false true false false W args v W' := by
  have hW' := hW
  obtain ⟨p, q, hA0, hV, rfl, hfz, hnd⟩ := hW
  have hA : DataW.TrodAll enc Tryz.prog W 0 (fun _ => true) true Tryz.f4.params.toList args.toList ds p := hA0
  rw [Tryz.params4] at hA hval
  obtain ⟨v0, vs0, d0, ds0, p0, q0, hargs, rfl, rfl, h0, r0⟩ := trodAll_cons hA
  obtain ⟨v1, vs1, d1, ds1, p1, q1, rfl, rfl, rfl, h1, r1⟩ := trodAll_cons r0
  obtain ⟨v2, vs2, d2, ds2, p2, q2, rfl, rfl, rfl, h2, r2⟩ := trodAll_cons r1
  obtain ⟨rfl, rfl, rfl⟩ := trodAll_nil r2
  obtain rfl : args = #[v0, v1, v2] := by clear hL hS hW' hval; cases args; simp_all
  obtain ⟨rfl, rfl⟩ := trodVars_none hV
  obtain ⟨a0, rfl, rfl, rfl, w0⟩ := open_int Tryz.underlying3 (hval 0 3 v0 rfl rfl) h0
  obtain ⟨b1, len1, cap1, rfl⟩ := okWide_slice Tryz.underlying22 (hval 1 22 v1 rfl rfl)
  have k1 := h1
  have lt1 : ∀ x ∈ p1, x.block < W.heap.size := by obtain ⟨m, hm⟩ := k1; exact DataW.trod_lt m _ _ _ hm
  obtain ⟨f1, tx1, ln1⟩ : ∃ f, Ops W b1 len1 f ∧ len1 ≤ 9223372036854775807 := by
    obtain ⟨fuel, hf⟩ := h1
    exact ops_of hf
  obtain ⟨a2, rfl, rfl, rfl, w2⟩ := open_int Tryz.underlying3 (hval 2 3 v2 rfl rfl) h2
  clear hA0
  simp only [List.append_nil] at hW'
  refine (walk a0 (wf_i64 w0) b1 len1 cap1 f1 a2 (wf_i64 w2) W (table hL hS) (tables hL hS) tx1 ln1).mono fun e W' ⟨he, hg⟩ => ?_
  subst he
  exact ⟨_, rfl, _, _, _, [], _, [], hW', trodAll_cons_mk (shut_bool Tryz.underlying4 _) trodAll_mk0, trodAll_cons_mk (shut_int Tryz.underlying3 w0) (trodAll_cons_mk (Below.trod laidOut8 (by kernel_rfl) (of_decide_eq_true (by kernel_rfl)) k1 hg lt1) (trodAll_cons_mk (shut_int Tryz.underlying3 w2) trodAll_mk0)), rfl, hg.frame _, fun h => by cases h⟩

theorem reads (os : Os) {H : Type} (enc : TypeId × Value → H) : ∃ places, DataW.whole enc Tryz.prog ((laidWorld os).forCall (fun _ _ => 0) ⟨#[], #[.int .i64 0, .slice none 0 0, .int .i64 0], []⟩).memory Tryz.f4.params.toList Rows.oplogStaysSpec.vars false (#[.int .i64 0, .slice none 0 0, .int .i64 0] : Array Value).toList 8 = some ([.lit (.int .i64 0), .nil, .lit (.int .i64 0)], [], places) :=
  ⟨[], by kernel_rfl⟩

set_option maxRecDepth 100000 in
theorem lifted (os : Os) (started : os.Started) (H : Type) (enc : TypeId × Value → H) (F : Stop.Interp) :
    ReturnsInHanded {} Tryz.checked os 4 .any ((OpenSpec.ofChange Rows.oplogStaysSpec).preRow enc Tryz.prog Tryz.f4 Rows.oplogStaysRow.domain false Rows.oplogStaysRow.laid) (((OpenSpec.ofChange Rows.oplogStaysSpec).at F).post enc Tryz.prog Tryz.f4 false true false false) := by
  obtain ⟨places, hx⟩ := reads os enc
  refine returnsInHanded_of_row (C := Tryz.checked) (s := OpenSpec.ofChange Rows.oplogStaysSpec) ownKb started (by kernel_rfl) Tryz.func4
    (witness_row_at (enc := enc) (C := Tryz.checked) false (laidWorld os) #[.int .i64 0, .slice none 0 0, .int .i64 0] (World.laidAll_os _ _ _) (by kernel_rfl) (by kernel_rfl) (by kernel_rfl)
      (OpenSpec.preRow_of_cond 8 hx (by kernel_rfl) (fun k hk => by cases hk) (by kernel_rfl) (laid_met os _))) ?_
  intro W base args ds gs before hval hW _ _ _ hL hS _
  exact contract H enc W base args ds gs before hval hW hL hS

theorem said : Rows.OplogStaysSaid :=
  OpenClaim.holds_of_cond 4 Tryz.f4 rfl rfl rfl rfl rfl rfl rfl ⟨rfl, rfl, rfl, rfl, rfl⟩ rfl rfl rfl rfl rfl (by kernel_rfl) Tryz.func4 (by kernel_rfl)
    (of_decide_eq_true (by kernel_rfl)) (by unfold Func.isWrapper; first | (rw [if_pos (by decide +kernel)]; kernel_rfl) | (rw [if_neg (by decide +kernel)]; exact ⟨rfl, rfl⟩))
    (fun os started H enc _ F => by rw [OpenClaim.pre_eq_preRow]; exact lifted os started H enc F)

theorem plain (f : FuncId) (fn : Func) (hf : Tryz.pinned.checked.prog.funcNamed "tompion/tompionlaw09.OplogStays" = some f) (hfn : Tryz.pinned.checked.prog.funcs[f]? = some fn) :
    false = Tryz.pinned.checked.prog.looks [] ∧ ∀ (j : Nat) t, fn.params[j]? = some t → Tryz.pinned.checked.prog.wantsStandIn t = false := by
  obtain rfl : f = 4 := Option.some.inj ((show Tryz.prog.funcNamed "tompion/tompionlaw09.OplogStays" = some 4 by kernel_rfl).symm.trans hf) |>.symm
  obtain rfl : fn = Tryz.f4 := (Option.some.inj (Tryz.func4.symm.trans hfn)).symm
  refine ⟨by kernel_rfl, fun j t ht => ?_⟩
  rw [Tryz.params4] at ht
  have hm := Array.mem_of_getElem? ht
  simp at hm
  replace hm : t = 3 ∨ t = 22 := by first | (rcases hm with e | e | e <;> simp [e]) | (rcases hm with e | e <;> simp [e])
  rcases hm with rfl | rfl
  · exact (show Tryz.prog.wantsStandIn 3 = false by kernel_rfl)
  · exact (show Tryz.prog.wantsStandIn 22 = false by kernel_rfl)

/-- The statement: the card, its tables tied to the program's text. -/
theorem proved : Rows.OplogStaysCardSaid :=
  Claim7.holds_tied_plain_at .later [] _ _ _ _ said (fun _ h => by cases h) (by kernel_rfl) (fun _ h => by cases h) oplogStays_row_tie rfl ⟨rfl, rfl⟩ (by kernel_rfl) rfl plain (by kernel_rfl)
#print axioms proved
end Go.Proofs.YtoihekgmomjhpaaGreatDoor.oplogStays
