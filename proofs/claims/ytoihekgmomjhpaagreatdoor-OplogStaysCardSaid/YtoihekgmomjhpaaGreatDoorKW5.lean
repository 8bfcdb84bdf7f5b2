/-
  Texts laid into one (a claim has 60 files at most): WLev, WState.
-/
import Derived.Test.YtoihekgmomjhpaaGreatDoorKW4
/-
  Layer 6: a level's methods: first, add, remove, empty.
-/
set_option linter.unusedVariables false
namespace Go.Proofs.YtoihekgmomjhpaaGreatDoor.W
open Go.RowKit Whl
theorem step_append_at {P : Program} {ops : Array Oper} {o : Oper} {a : Act} {w : World} {K : Act → World → Prop} {Q : Exit → Act → World → Prop} {E : Prop}
    (hg : o.guard = none) (d x : Operand) (dT sT : TypeId) (hop : o.op = Op.call { callee := Callee.builtin Builtin.append, args := #[d, x], argTypes := #[dT, sT] })
    (v u : Value) (hd : a.eval d = v) (hx : a.eval x = u) {v' : Value} {w' : World} (hr : (Builtin.append_ #[dT, sT] o.type #[v, u]).run P w = .ok v' w') (hK : K (a.put o.dst v') w') :
    if Region.wanted o (yielded ops a.tmps) = true then Oper.wp P o a w K Q else E := by
  have hw : Region.wanted o (yielded ops a.tmps) = true := by simp [Region.wanted, hg]
  rw [if_pos hw]
  unfold Oper.wp
  simp [execOp, hop, resolve, invoke, builtin, hd, hx, hr, Result.andThen]
  exact hK
theorem append_pair (base : Nat) (v : Value) (l : List ItemN) (p : ItemN) (vb : Nat) (w : World) (hr : Rw base w v l) (hv : Bk vb w p) (hb : base ≤ w.heap.size) (hlen : l.length ≤ 1000000) :
    ∃ v' w', (Builtin.append_ #[98, 98] 98 #[v, .slice (some ⟨vb, 0, none⟩) 1 1]).run Tryz.prog w = .ok v' w' ∧ Turned base w v w' v' (l ++ [p]) := by
  obtain ⟨i0, hi0, hz0, hzs, hzb⟩ := info_parts info52
  obtain ⟨v', w', h1, h2, h3, h4⟩ := run_append_own_at w base 98 98 100 i0 _ 2 16 Tryz.underlying98 hi0 hz0 hzs hzb rfl (by omega) v l.length (flat l) hr ⟨vb, 0, none⟩ 1 1 (flat [p]) rfl (pair_news hv) (flat_one _) (by unfold maxLen; omega) (by omega) hb
  exact ⟨v', w', h1, by unfold Rw; rw [List.length_append, flat_app]; exact h2, h3, fun k hk => by
    rcases h4.2 with e | e
    · exact .inl (e ▸ hk)
    · rw [e] at hk; injection hk with hk; exact .inr (by omega)⟩
/-- The cells of a block, and with one written. -/
def vw (w : World) (b : Nat) : Nat → Option Value := fun d => w.cell? ⟨b, d, none⟩
def upd1 (f : Nat → Option Value) (c : Nat) (x : Value) : Nat → Option Value := fun d => if d = c then some x else f d
theorem upd1_same (f : Nat → Option Value) (c : Nat) (x : Value) : upd1 f c x c = some x := if_pos rfl
theorem upd1_other (f : Nat → Option Value) {c d : Nat} (x : Value) (h : d ≠ c) : upd1 f c x d = f d := if_neg h
/-- A block of cells of which one held a list: only its cells, and the list's own block, have turned. -/
structure Upd (base b : Nat) (w : World) (v : Value) (w' : World) (v' : Value) (l' : List ItemN) (f : Nat → Option Value) : Prop where
  view : ∀ d, w'.cell? ⟨b, d, none⟩ = f d
  row : Rw base w' v' l'
  free : ∀ d, w.frozen? ⟨b, d, none⟩ = false → w'.frozen? ⟨b, d, none⟩ = false
  block : ∀ k, k < w.heap.size → k ≠ b → v.ownBlock ≠ some k → w'.heap[k]? = w.heap[k]?
  size : w.heap.size ≤ w'.heap.size
  os : w'.os = w.os
  tape : w'.tape = w.tape
  output : w'.output = w.output
  own : ∀ k, v'.ownBlock = some k → v.ownBlock = some k ∨ w.heap.size ≤ k
  nb : v'.ownBlock ≠ some b
theorem Upd.drew {base b : Nat} {w w' : World} {v v' : Value} {l' : List ItemN} {f : Nat → Option Value} (h : Upd base b w v w' v' l' f) : Upd base b w v w'.drew v' l' f :=
  ⟨h.view, h.row, h.free, h.block, h.size, h.os, h.tape, h.output, h.own, h.nb⟩
theorem Upd.drewN {base b : Nat} {w w' : World} {v v' : Value} {l' : List ItemN} {f : Nat → Option Value} (h : Upd base b w v w' v' l' f) : ∀ n, Upd base b w v (w'.drewN n) v' l' f
  | 0 => h
  | n + 1 => (h.drewN n).drew
theorem set_view {w : World} {b : Nat} {f : Nat → Option Value} (hf : ∀ d, w.cell? ⟨b, d, none⟩ = f d) {o : Nat} (ho : (f o).isSome = true) (x : Value) : ∀ d, (w.setCell ⟨b, o, none⟩ x).cell? ⟨b, d, none⟩ = upd1 f o x d := by
  intro d
  by_cases hd : d = o
  · subst hd
    rw [upd1_same]
    exact World.cell?_setCell_same' _ _ _ (by rw [hf]; exact ho)
  · rw [upd1_other _ _ hd, World.cell?_setCell_other _ _ _ _ (by intro e; injection e with _ e2; exact hd e2.symm)]
    exact hf d
theorem Upd.set {base b : Nat} {w w' : World} {v v' : Value} {l' : List ItemN} {f : Nat → Option Value} (h : Upd base b w v w' v' l' f) {o : Nat} (ho : (f o).isSome = true) (x : Value) : Upd base b w v (w'.setCell ⟨b, o, none⟩ x) v' l' (upd1 f o x) := by
  refine ⟨set_view h.view ho x, ?_, fun d hd => by rw [World.frozen?_setCell]; exact h.free d hd, fun k hk hkb hkv => ?_, ?_, h.os, h.tape, h.output, h.own, h.nb⟩
  · exact World.ownsRow.kept h.row (row := some b) ⟨rfl, rfl, rfl, by simp [World.setCell], fun k _ hk => heap_setCell_other _ _ _ _ (fun e => hk (by rw [e]))⟩ (.inr h.nb)
  · rw [heap_setCell_other _ _ _ _ hkb]
    exact h.block k hk hkb hkv
  · have := h.size
    simp [World.setCell]
    exact this
/-- What a call made of a list is stored where the list was. -/
theorem Upd.store {base b c : Nat} {w w1 w2 : World} {v v' : Value} {l' : List ItemN} (k : Below w.heap.size w w1) (t : Turned base w1 v w2 v' l') (hb : b < w.heap.size) (hv : v.ownBlock ≠ some b) (hc : (w.cell? ⟨b, c, none⟩).isSome = true) :
    Upd base b w v (w2.setCell ⟨b, c, none⟩ v') v' l' (upd1 (vw w b) c v') := by
  have e2 : w2.heap[b]? = w.heap[b]? := (t.grown.block b (Nat.lt_of_lt_of_le hb k.size) (fun e => hv e.symm)).trans (k.block b hb)
  have hvb : v'.ownBlock ≠ some b := fun e => by
    rcases t.own b e with h | h
    · exact hv h
    · have := k.size; omega
  have h0 : Upd base b w v w2 v' l' (vw w b) := by
    refine ⟨fun d => World.cell?_of_block (w := w) (a := ⟨b, d, none⟩) e2, t.row, fun d hd => ?_, fun x hx hxb hxv => ?_, Nat.le_trans k.size t.grown.size, t.grown.os.trans k.os, t.grown.tape.trans k.tape, t.grown.output.trans k.output, fun x hx => ?_, hvb⟩
    · rw [World.frozen?_of_block (w := w) (a := ⟨b, d, none⟩) e2]; exact hd
    · rw [t.grown.block x (Nat.lt_of_lt_of_le hx k.size) (fun e => hxv e.symm), k.block x hx]
    · rcases t.own x hx with h | h
      · exact .inl h
      · have := k.size; exact .inr (by omega)
  exact h0.set hc v'
theorem or_bit {F s : Nat} (hF : F < 18446744073709551616) (hs : s < 64) : bits .or .u64 (F : Int) (IntKind.u64.wrap (2 ^ s)) = ((F ||| 2 ^ s : Nat) : Int) := by
  have hp : 2 ^ s < 18446744073709551616 := Nat.lt_of_le_of_lt (Nat.pow_le_pow_right (by omega) (show s ≤ 63 by omega)) (by decide)
  have e : IntKind.u64.wrap ((2 : Int) ^ s) = ((2 ^ s : Nat) : Int) := by
    rw [IntKind.wrap_u64, show (2 : Int) ^ s = ((2 ^ s : Nat) : Int) by simp]
    exact Int.emod_eq_of_lt (Int.natCast_nonneg _) (Int.ofNat_lt.2 hp)
  rw [e, bits_or_u64_nat F _ hF hp]
def lessBit (F s : Nat) : Nat := F &&& (2 ^ 64 - (2 ^ s + 1))
theorem andNot_bit {F s : Nat} (hF : F < 18446744073709551616) (hs : s < 64) : bits .andNot .u64 (F : Int) (IntKind.u64.wrap (2 ^ s)) = ((lessBit F s : Nat) : Int) := by
  have hp : 2 ^ s < 18446744073709551616 := Nat.lt_of_le_of_lt (Nat.pow_le_pow_right (by omega) (show s ≤ 63 by omega)) (by decide)
  have e : IntKind.u64.wrap ((2 : Int) ^ s) = ((2 ^ s : Nat) : Int) := by
    rw [IntKind.wrap_u64, show (2 : Int) ^ s = ((2 ^ s : Nat) : Int) by simp]
    exact Int.emod_eq_of_lt (Int.natCast_nonneg _) (Int.ofNat_lt.2 hp)
  have hx : F &&& (2 ^ 64 - 1 - 2 ^ s) ≤ F := Nat.and_le_left
  have h1 : (BitVec.ofInt 64 (F : Int)).toNat = F := by
    rw [BitVec.ofInt_natCast, BitVec.toNat_ofNat]; exact Nat.mod_eq_of_lt (by omega)
  have h2 : (BitVec.ofInt 64 ((2 ^ s : Nat) : Int)).toNat = 2 ^ s := by
    rw [BitVec.ofInt_natCast, BitVec.toNat_ofNat]; exact Nat.mod_eq_of_lt (by omega)
  rw [e]
  show IntKind.u64.wrap ((BitVec.ofInt 64 (F : Int) &&& ~~~ BitVec.ofInt 64 ((2 ^ s : Nat) : Int)).toNat : Int) = _
  rw [BitVec.toNat_and, BitVec.toNat_not, h1, h2, IntKind.wrap_u64]
  unfold lessBit
  rw [show 2 ^ 64 - (2 ^ s + 1) = 2 ^ 64 - 1 - 2 ^ s by omega]
  omega
theorem lessBit_bit {F s i : Nat} (hF : F < 18446744073709551616) (hs : s < 64) : (lessBit F s).testBit i = (F.testBit i && !decide (i = s)) := by
  have hp : 2 ^ s < 2 ^ 64 := Nat.pow_lt_pow_right (by omega) hs
  unfold lessBit
  rw [Nat.testBit_and, Nat.testBit_two_pow_sub_succ hp, Nat.testBit_two_pow]
  by_cases hi : i < 64
  · simp [hi, eq_comm]
  · have : F.testBit i = false := Nat.testBit_lt_two_pow (Nat.lt_of_lt_of_le hF (Nat.le_trans (by decide : 18446744073709551616 ≤ 2 ^ 64) (Nat.pow_le_pow_right (by omega) (by omega))))
    simp [this]
theorem lessBit_lt {F s : Nat} (hF : F < 18446744073709551616) : lessBit F s < 18446744073709551616 := Nat.lt_of_le_of_lt Nat.and_le_left hF
theorem orBit_bit {F s i : Nat} : (F ||| 2 ^ s).testBit i = (F.testBit i || decide (i = s)) := by
  rw [Nat.testBit_or, Nat.testBit_two_pow]
  simp [eq_comm]
theorem orBit_lt {F s : Nat} (hF : F < 18446744073709551616) (hs : s < 64) : F ||| 2 ^ s < 18446744073709551616 :=
  Nat.or_lt_two_pow (n := 64) hF (Nat.pow_lt_pow_right (by omega) hs)
set_option maxHeartbeats 2000000 in
set_option maxRecDepth 100000 in
theorem add_any (base b o s F : Nat) (v : Value) (l : List ItemN) (p : ItemN) (w : World) (hF : w.cell? ⟨b, o, none⟩ = some (.int .u64 (F : Int))) (hF2 : F < 18446744073709551616) (hS : w.cell? ⟨b, o + 1 + s, none⟩ = some v) (hs : s < 64)
    (f1 : w.frozen? ⟨b, o, none⟩ = false) (f2 : w.frozen? ⟨b, o + 1 + s, none⟩ = false) (hr : Rw base w v l) (hvb : v.ownBlock ≠ some b) (hbase : base ≤ w.heap.size) (hlen : l.length ≤ 1000000) :
    Calls Tryz.prog 97 #[.pointer (some ⟨b, o, none⟩), .int .i64 s, pairV p] w fun e w' => e = .returned (.tuple #[]) ∧ ∃ v', Upd base b w v w' v' (l ++ [p]) (upd1 (upd1 (vw w b) (o + 1 + s) v') o (.int .u64 ((F ||| 2 ^ s : Nat) : Int))) := by
  have hb : b < w.heap.size := World.block_lt_of_cell? w _ hF
  have hvl : ∀ k, v.ownBlock = some k → k < w.heap.size := fun k hk => (World.ownsRow.lt hr k hk).2
  have B1 := Bx.start w p
  have k1 := Lib.hid ((Below.refl w.heap.size w).alloc (Nat.le_refl _) (.cells #[.int .i64 (p.1 : Int), .int .i64 (p.2 : Int)] 100))
  have w1z : Hid ((w.alloc (.cells #[.int .i64 (p.1 : Int), .int .i64 (p.2 : Int)] 100)).heap.size = w.heap.size + 1) := by unfold Hid; simp
  have hS1 : Hid (∀ W, Below (w.alloc (.cells #[.int .i64 (p.1 : Int), .int .i64 (p.2 : Int)] 100)).heap.size (w.alloc (.cells #[.int .i64 (p.1 : Int), .int .i64 (p.2 : Int)] 100)) W → W.cell? ⟨b, o + 1 + s, none⟩ = some v ∧ W.cell? ⟨w.heap.size, 0, none⟩ = some (.int .i64 (p.1 : Int)) ∧ W.cell? ⟨w.heap.size, 1, none⟩ = some (.int .i64 (p.2 : Int))) := fun W hW => by
    refine ⟨?_, (B1.below hW).c0, (B1.below hW).c1⟩
    rw [World.cell?_of_block (hW.block b (by have := w1z.out; omega))]
    rw [World.cell?_of_block (k1.out.block b hb)]
    exact hS
  obtain ⟨p0, p1⟩ := p
  unfold pairV
  simp only at hS1 k1 w1z B1
  go_enter Tryz.func97, Tryz.ntmps97
  go_upto_region 1 with fail
  have hz := w1z.out
  generalize hw1 : w.alloc (.cells #[.int .i64 (p0 : Int), .int .i64 (p1 : Int)] 100) = w1 at *
  have R1 : Rw base w1 v l := hr.below k1.out
  have kA : Below w1.heap.size w1 (w1.alloc (.cells #[.int .i64 (p0 : Int), .int .i64 (p1 : Int)] 100)).drew := ((Below.refl _ _).alloc (Nat.le_refl _) _).drew
  obtain ⟨v8, w8, hrun, T8⟩ := append_pair base v l (p0, p1) w1.heap.size (w1.alloc (.cells #[.int .i64 (p0 : Int), .int .i64 (p1 : Int)] 100)).drew (R1.below kA) (Go.heap_alloc_new w1 _) (Nat.le_trans hbase (Nat.le_trans k1.out.size kA.size)) hlen
  obtain ⟨a8, cap8, rfl, _, _, _⟩ := T8.row.look
  have U := Lib.hid (Upd.store (b := b) (c := o + 1 + s) (k1.out.trans (kA.mono k1.out.size)) T8 hb hvb (by rw [hS]; rfl))
  have e8 : w8.heap[b]? = w.heap[b]? := (T8.grown.block b (Nat.lt_of_lt_of_le hb (Nat.le_trans k1.out.size kA.size)) (fun e => hvb e.symm)).trans ((kA.block b (by omega)).trans (k1.out.block b hb))
  have c8 : w8.cell? ⟨b, o + 1 + s, none⟩ = some v := (World.cell?_of_block (w := w) (a := ⟨b, o + 1 + s, none⟩) e8).trans hS
  have f8 : w8.frozen? ⟨b, o + 1 + s, none⟩ = false := (World.frozen?_of_block (w := w) (a := ⟨b, o + 1 + s, none⟩) e8).trans f2
  obtain ⟨a1, a2, a3⟩ := hS1.out w1 (Below.refl _ _)
  obtain ⟨b1, b2, b3⟩ := hS1.out (w1.alloc (.cells #[.int .i64 (p0 : Int), .int .i64 (p1 : Int)] 100)) ((Below.refl _ _).alloc (Nat.le_refl _) _)
  have F1 : (w8.setCell ⟨b, o + 1 + s, none⟩ (.slice a8 (l ++ [(p0, p1)]).length cap8)).cell? ⟨b, o, none⟩ = some (.int .u64 (F : Int)) := (U.out.view o).trans ((upd1_other _ _ (by omega)).trans hF)
  have F2 : (w8.setCell ⟨b, o + 1 + s, none⟩ (.slice a8 (l ++ [(p0, p1)]).length cap8)).frozen? ⟨b, o, none⟩ = false := U.out.free o f1
  have hs1 : (s : Int) < 64 := by omega
  generalize (l ++ [(p0, p1)]).length = n8 at *
  have ho : Hid ((upd1 (vw w b) (o + 1 + s) (.slice a8 n8 cap8) o).isSome = true) := by
    unfold Hid
    rw [upd1_other _ _ (by omega)]
    show (w.cell? _).isSome = true
    rw [hF]; rfl
  have hor := or_bit hF2 hs
  clear e8 T8 R1 kA hS1 hw1 hz w1z hr k1 hlen hbase hvl B1 hF hS f1 f2
  replace hrun := Lib.hid hrun
  go_region_law (refine step_append_at (by rfl) _ _ 98 98 (by rfl) _ _ (by rfl) (by rfl) hrun.out ?_)
  all_goals
    clear hrun c8 f8 a1 a2 a3 b1 b2 b3
    generalize w8.setCell ⟨b, o + 1 + s, none⟩ (.slice a8 n8 cap8) = w9 at *
    go_upto_region 2 with fail
    go_region
    go_end0
    exact ⟨rfl, _, (U.out.set ho.out _).drew⟩
set_option maxHeartbeats 2000000 in
set_option maxRecDepth 100000 in
theorem empty_any (base b o s F : Nat) (v : Value) (l : List ItemN) (w : World) (hF : w.cell? ⟨b, o, none⟩ = some (.int .u64 (F : Int))) (hF2 : F < 18446744073709551616) (hS : w.cell? ⟨b, o + 1 + s, none⟩ = some v) (hs : s < 64)
    (f1 : w.frozen? ⟨b, o, none⟩ = false) (f2 : w.frozen? ⟨b, o + 1 + s, none⟩ = false) (hr : Rw base w v l) (hvb : v.ownBlock ≠ some b) :
    Calls Tryz.prog 81 #[.pointer (some ⟨b, o, none⟩), .int .i64 s] w fun e w' => e = .returned v ∧ Upd base b w v w' (.slice none 0 0) [] (upd1 (upd1 (vw w b) (o + 1 + s) (.slice none 0 0)) o (.int .u64 ((lessBit F s : Nat) : Int))) ∧ Rw base w' v l := by
  have hb : b < w.heap.size := World.block_lt_of_cell? w _ hF
  have U0 : Upd base b w v w (.slice none 0 0) [] (vw w b) := ⟨fun _ => rfl, Rw.nil _ _, fun _ h => h, fun _ _ _ _ => rfl, Nat.le_refl _, rfl, rfl, rfl, fun k hk => by simp [Value.ownBlock] at hk, by simp [Value.ownBlock]⟩
  have U := Lib.hid (U0.set (o := o + 1 + s) (by show (w.cell? _).isSome = true; rw [hS]; rfl) (.slice none 0 0))
  have F1 : (w.setCell ⟨b, o + 1 + s, none⟩ (.slice none 0 0)).cell? ⟨b, o, none⟩ = some (.int .u64 (F : Int)) := (U.out.view o).trans ((upd1_other _ _ (by omega)).trans hF)
  have F2 : (w.setCell ⟨b, o + 1 + s, none⟩ (.slice none 0 0)).frozen? ⟨b, o, none⟩ = false := U.out.free o f1
  have ho : Hid ((upd1 (vw w b) (o + 1 + s) (.slice none 0 0) o).isSome = true) := by
    unfold Hid
    rw [upd1_other _ _ (by omega)]
    show (w.cell? _).isSome = true
    rw [hF]; rfl
  have hor := andNot_bit hF2 hs
  have hs1 : (s : Int) < 64 := by omega
  have R1 : Hid (Rw base (w.setCell ⟨b, o + 1 + s, none⟩ (.slice none 0 0)) v l) := World.ownsRow.kept hr (row := some b) ⟨rfl, rfl, rfl, by simp [World.setCell], fun k _ hk => heap_setCell_other _ _ _ _ (fun e => hk (by rw [e]))⟩ (.inr hvb)
  obtain ⟨a, cap, rfl, _, _, _⟩ := hr.look
  clear U0 hr hF f1
  generalize hn : l.length = n at *
  go_enter Tryz.func81, Tryz.ntmps81
  go_wp2_with fail
  clear hS f2
  generalize w.setCell ⟨b, o + 1 + s, none⟩ (.slice none 0 0) = w9 at *
  go_region
  all_goals
    go_wp2_with fail
    go_ret
    exact ⟨rfl, (U.out.set ho.out _).drew, World.ownsRow.kept R1.out (row := some b) ⟨rfl, rfl, rfl, by simp [World.setCell, World.drew], fun k _ hk => heap_setCell_other _ _ _ _ (fun e => hk (by rw [e]))⟩ (.inr hvb)⟩
theorem first_none (b o : Nat) (w : World) (hF : w.cell? ⟨b, o, none⟩ = some (.int .u64 0)) : Calls Tryz.prog 78 #[.pointer (some ⟨b, o, none⟩)] w fun e w' => e = .returned (.tuple #[.int .i64 0, .bool false]) ∧ w = w' := by
  go_enter Tryz.func78, Tryz.ntmps78
  go_wp2_with fail
  go_ret2
  exact ⟨rfl, rfl⟩
theorem first_some (b o F : Nat) (w : World) (hF : w.cell? ⟨b, o, none⟩ = some (.int .u64 (F : Int))) (h0 : F ≠ 0) (h1 : F < 18446744073709551616) (t : Bru w) : Calls Tryz.prog 78 #[.pointer (some ⟨b, o, none⟩)] w fun e w' => e = .returned (.tuple #[.int .i64 (Lib.ctz 64 F : Nat), .bool true]) ∧ w = w' := by
  have cz := Lib.hid (zeros_any F h1 h0 w t)
  have hb : ((F : Int) == 0) = false := by rw [beq_eq_false_iff_ne]; omega
  replace h0 := Lib.hid h0
  go_enter Tryz.func78, Tryz.ntmps78
  go_wp2_with fail
  refine cz.out.mono ?_
  rintro e w1 ⟨rfl, rfl⟩
  go_wp2_with fail
  go_ret2
  exact ⟨rfl, rfl⟩
/-- The cells behind a removal: where the list is empty its bit goes, too. -/
def remF (f : Nat → Option Value) (c o : Nat) (x : Value) (l : List ItemN) (v : Value) : Nat → Option Value := if l = [] then upd1 (upd1 f c v) o x else upd1 f c v
set_option maxHeartbeats 4000000 in
set_option maxRecDepth 100000 in
theorem remove_any (base b o s F : Nat) (v : Value) (l : List ItemN) (p : ItemN) (w : World) (hF : w.cell? ⟨b, o, none⟩ = some (.int .u64 (F : Int))) (hF2 : F < 18446744073709551616) (hS : w.cell? ⟨b, o + 1 + s, none⟩ = some v) (hs : s < 64)
    (f1 : w.frozen? ⟨b, o, none⟩ = false) (f2 : w.frozen? ⟨b, o + 1 + s, none⟩ = false) (hr : Rw base w v l) (hvb : v.ownBlock ≠ some b) (hbase : base ≤ w.heap.size) (hlen : l.length ≤ 1000000) (hp : p ∈ l) :
    Calls Tryz.prog 93 #[.pointer (some ⟨b, o, none⟩), .int .i64 s, pairV p] w fun e w' => e = .returned (.tuple #[]) ∧ ∃ v', Upd base b w v w' v' (l.erase p) (remF (vw w b) (o + 1 + s) o (.int .u64 ((lessBit F s : Nat) : Int)) (l.erase p) v') := by
  have hb : b < w.heap.size := World.block_lt_of_cell? w _ hF
  have B1 := Bx.start w p
  have k1 := Lib.hid ((Below.refl w.heap.size w).alloc (Nat.le_refl _) (.cells #[.int .i64 (p.1 : Int), .int .i64 (p.2 : Int)] 100))
  have w1z : (w.alloc (.cells #[.int .i64 (p.1 : Int), .int .i64 (p.2 : Int)] 100)).heap.size = w.heap.size + 1 := by simp
  obtain ⟨w1, hw1⟩ : ∃ w1, w.alloc (.cells #[.int .i64 (p.1 : Int), .int .i64 (p.2 : Int)] 100) = w1 := ⟨_, rfl⟩
  rw [hw1] at B1 k1 w1z
  have c1 : w1.cell? ⟨b, o + 1 + s, none⟩ = some v := (World.cell?_of_block (w := w) (k1.out.block b hb)).trans hS
  obtain ⟨d0, d1⟩ := B1
  have hfr : Hid (∀ w8 v8, Turned base w1.drew v w8 v8 (l.erase p) → w8.cell? ⟨b, o + 1 + s, none⟩ = some v ∧ w8.frozen? ⟨b, o + 1 + s, none⟩ = false ∧ Upd base b w v (w8.setCell ⟨b, o + 1 + s, none⟩ v8) v8 (l.erase p) (upd1 (vw w b) (o + 1 + s) v8)) := fun w8 v8 T => by
    have e8 : w8.heap[b]? = w.heap[b]? := (T.grown.block b (Nat.lt_of_lt_of_le hb k1.out.size) (fun e => hvb e.symm)).trans (k1.out.block b hb)
    exact ⟨(World.cell?_of_block (w := w) (a := ⟨b, o + 1 + s, none⟩) e8).trans hS, (World.frozen?_of_block (w := w) (a := ⟨b, o + 1 + s, none⟩) e8).trans f2, Upd.store (w1 := w1.drew) k1.out.drew T hb hvb (by rw [hS]; rfl)⟩
  have cw := Lib.hid (without_any base v l p w1.drew (hr.below k1.out.drew) hp hlen)
  have hoF : Hid (∀ v8, (upd1 (vw w b) (o + 1 + s) v8 o) = some (.int .u64 (F : Int))) := fun v8 => by
    rw [upd1_other _ _ (by omega)]; exact hF
  have hand := andNot_bit hF2 hs
  have hs1 : (s : Int) < 64 := by omega
  generalize l.erase p = l8 at *
  obtain ⟨p0, p1⟩ := p
  unfold pairV at *
  simp only at hw1 d0 d1 cw
  clear hS f2 hr hp hlen hbase k1 w1z
  go_enter Tryz.func93, Tryz.ntmps93
  go_upto_region 1 with fail
  clear hw1
  go_cut [] from 15 (fun wc => ∃ v8, Hid (Upd base b w v wc v8 l8 (upd1 (vw w b) (o + 1 + s) v8)))
  case first =>
    go_region_with (first
      | (go_at_call 91; (with_reducible refine cw.out.mono ?_); rintro e w8 ⟨v8, rfl, T8⟩; obtain ⟨a8, cap8, rfl, _, _, _⟩ := T8.row.look; obtain ⟨x1, x2, x3⟩ := hfr.out _ _ T8; replace x3 := Lib.hid x3; clear T8))
    all_goals
      go_wp2_with fail
      go_meet
      exact ⟨_, x3⟩
  case rest =>
    obtain ⟨v8, U⟩ := hcut
    obtain ⟨a8, cap8, rfl, _, _, _⟩ := U.out.row.look
    have g1 : wc.cell? ⟨b, o + 1 + s, none⟩ = some (.slice a8 l8.length cap8) := (U.out.view _).trans (upd1_same _ _ _)
    have g2 : wc.cell? ⟨b, o, none⟩ = some (.int .u64 (F : Int)) := (U.out.view o).trans (hoF.out _)
    have g3 : wc.frozen? ⟨b, o, none⟩ = false := U.out.free o f1
    have ho : Hid ((upd1 (vw w b) (o + 1 + s) (.slice a8 l8.length cap8) o).isSome = true) := by unfold Hid; rw [hoF.out]; rfl
    clear hoF hfr cw c1 d0 d1 hF f1
    by_cases h8 : l8 = []
    · have h8l : l8.length = 0 := by rw [h8]; rfl
      rw [h8l] at g1 ho
      have U2 := U
      rw [h8l] at U2
      clear U
      have h8' := Lib.hid h8
      clear h8 h8l
      go_wp2_with fail
      go_region
      all_goals
        go_end0
        refine ⟨rfl, .slice a8 0 cap8, ?_⟩
        unfold remF
        rw [if_pos h8'.out]
        exact (U2.out.set ho.out _).drew
    · have hz : ((l8.length : Int) == 0) = false := by
        rw [beq_eq_false_iff_ne]
        have : 0 < l8.length := List.length_pos_iff.2 h8
        omega
      have h8' := Lib.hid h8
      clear h8
      generalize hn : l8.length = n8 at *
      clear hn
      go_wp2_with fail
      go_end0
      refine ⟨rfl, .slice a8 n8 cap8, ?_⟩
      unfold remF
      rw [if_neg h8'.out]
      exact U.out
end Go.Proofs.YtoihekgmomjhpaaGreatDoor.W

/-
  Layer 6: a wheel as it lies in the world: its time, its lists, each in a block of its own, and the bits of its levels.
-/
set_option linter.unusedVariables false
namespace Go.Proofs.YtoihekgmomjhpaaGreatDoor.W
open Go.RowKit Whl
/-- The cells that hold lists. -/
def IsL (c : Nat) : Prop := c = 2 ∨ c = 393 ∨ ∃ i s, i < 6 ∧ s < 64 ∧ c = 4 + 65 * i + s
theorem isL_big {c : Nat} (h : IsL c) : 2 ≤ c := by
  rcases h with h | h | ⟨i, s, h1, h2, h3⟩ <;> omega
theorem isL_full {c i : Nat} (h : IsL c) (hi : i < 6) : c ≠ 3 + i * 65 := by
  rcases h with h | h | ⟨j, s, h1, h2, h3⟩ <;> omega
/-- A wheel: its time, its map, its lists and their values, its levels' bits. -/
structure Wh (base : Nat) (w : World) (b : Nat) (now : Nat) (m : Value) (V : Nat → Value) (F : Nat → Nat) (L : Nat → List ItemN) : Prop where
  low : base ≤ b
  lt : b < w.heap.size
  free : ∀ d, w.frozen? ⟨b, d, none⟩ = false
  now : w.cell? ⟨b, 0, none⟩ = some (.int .i64 (now : Int))
  times : w.cell? ⟨b, 1, none⟩ = some m
  slot : ∀ c, IsL c → w.cell? ⟨b, c, none⟩ = some (V c)
  full : ∀ i, i < 6 → w.cell? ⟨b, 3 + i * 65, none⟩ = some (.int .u64 (F i : Int))
  row : ∀ c, IsL c → Rw base w (V c) (L c)
  apart : ∀ c d, IsL c → IsL d → c ≠ d → ∀ k, (V c).ownBlock = some k → (V d).ownBlock ≠ some k
  nb : ∀ c, IsL c → (V c).ownBlock ≠ some b
/-- The bits tell which slots aren't empty. -/
def Bits (F : Nat → Nat) (L : Nat → List ItemN) : Prop := ∀ i, i < 6 → F i < 18446744073709551616 ∧ ∀ s, s < 64 → (F i).testBit s = decide (L (4 + 65 * i + s) ≠ [])
/-- Its blocks, the map's aside. -/
def OwnL (b : Nat) (V : Nat → Value) (k : Nat) : Prop := k = b ∨ ∃ c, IsL c ∧ (V c).ownBlock = some k
/-- Of what was there only these blocks may have turned. -/
structure Kp (O : Nat → Prop) (w w' : World) : Prop where
  os : w'.os = w.os
  tape : w'.tape = w.tape
  output : w'.output = w.output
  size : w.heap.size ≤ w'.heap.size
  block : ∀ k, k < w.heap.size → ¬ O k → w'.heap[k]? = w.heap[k]?
theorem Kp.refl (O : Nat → Prop) (w : World) : Kp O w w := ⟨rfl, rfl, rfl, Nat.le_refl _, fun _ _ _ => rfl⟩
theorem Kp.trans {O O2 : Nat → Prop} {x y z : World} (h : Kp O x y) (k : Kp O2 y z) (ho : ∀ i, O2 i → O i ∨ x.heap.size ≤ i) : Kp O x z :=
  ⟨k.os.trans h.os, k.tape.trans h.tape, k.output.trans h.output, Nat.le_trans h.size k.size, fun i hi hn => (k.block i (Nat.lt_of_lt_of_le hi h.size) (fun e => by
    rcases ho i e with g | g
    · exact hn g
    · omega)).trans (h.block i hi hn)⟩
theorem Kp.mono {O O2 : Nat → Prop} {x y : World} (h : Kp O x y) (ho : ∀ i, O i → O2 i ∨ x.heap.size ≤ i) : Kp O2 x y :=
  ⟨h.os, h.tape, h.output, h.size, fun i hi hn => h.block i hi (fun e => by
    rcases ho i e with g | g
    · exact hn g
    · omega)⟩
theorem Kp.ofBelow {O : Nat → Prop} {w w' : World} (h : Below w.heap.size w w') : Kp O w w' := ⟨h.os, h.tape, h.output, h.size, fun k hk _ => h.block k hk⟩
theorem Kp.below {O : Nat → Prop} {B : Nat} {w w' : World} (h : Kp O w w') (hb : ∀ k, O k → B ≤ k) (hB : B ≤ w.heap.size) : Below B w w' :=
  ⟨h.os, h.tape, h.output, h.size, fun k hk => h.block k (by omega) fun e => by have := hb k e; omega⟩
theorem Wh.own_low {base : Nat} {w : World} {b now : Nat} {m : Value} {V : Nat → Value} {F : Nat → Nat} {L : Nat → List ItemN} (h : Wh base w b now m V F L) {k : Nat} (hk : OwnL b V k) : base ≤ k ∧ k < w.heap.size := by
  rcases hk with rfl | ⟨c, hc, e⟩
  · exact ⟨h.low, h.lt⟩
  · exact World.ownsRow.lt (h.row c hc) k e
/-- A world in which none of its blocks turned. -/
theorem Wh.kept {base : Nat} {w w' : World} {b now : Nat} {m : Value} {V : Nat → Value} {F : Nat → Nat} {L : Nat → List ItemN} (h : Wh base w b now m V F L) (hs : w.heap.size ≤ w'.heap.size) (k : ∀ x, OwnL b V x → w'.heap[x]? = w.heap[x]?) : Wh base w' b now m V F L := by
  have e := k b (.inl rfl)
  have ec : ∀ d, w'.cell? ⟨b, d, none⟩ = w.cell? ⟨b, d, none⟩ := fun d => World.cell?_of_block (w := w) (a := ⟨b, d, none⟩) e
  refine ⟨h.low, Nat.lt_of_lt_of_le h.lt hs, fun d => (World.frozen?_of_block (w := w) (a := ⟨b, d, none⟩) e).trans (h.free d), (ec _).trans h.now, (ec _).trans h.times, fun c hc => (ec c).trans (h.slot c hc), fun i hi => (ec _).trans (h.full i hi), fun c hc => ?_, h.apart, h.nb⟩
  obtain ⟨r1, r2⟩ := h.row c hc
  refine ⟨r1, ?_⟩
  rcases r2 with r2 | ⟨g, cap, cur, e1, e2, e3, e4⟩
  · exact .inl r2
  · exact .inr ⟨g, cap, cur, e1, e2, (k g (.inr ⟨c, hc, by rw [e1]; rfl⟩)).trans e3, e4⟩
theorem Wh.below {base : Nat} {w w' : World} {b now : Nat} {m : Value} {V : Nat → Value} {F : Nat → Nat} {L : Nat → List ItemN} (h : Wh base w b now m V F L) (k : Below w.heap.size w w') : Wh base w' b now m V F L :=
  h.kept k.size fun x hx => k.block x (h.own_low hx).2
def putV (V : Nat → Value) (c : Nat) (v : Value) : Nat → Value := fun k => if k = c then v else V k
theorem putV_same (V : Nat → Value) (c : Nat) (v : Value) : putV V c v c = v := by simp [putV]
theorem putV_other (V : Nat → Value) {c k : Nat} (v : Value) (h : k ≠ c) : putV V c v k = V k := by simp [putV, h]
/-- A wheel behind a step in which its lists turned. -/
structure Step (base : Nat) (w : World) (b : Nat) (V : Nat → Value) (w' : World) (now : Nat) (m : Value) (V' : Nat → Value) (F' : Nat → Nat) (L' : Nat → List ItemN) : Prop where
  wh : Wh base w' b now m V' F' L'
  kp : Kp (OwnL b V) w w'
  own : ∀ k, OwnL b V' k → OwnL b V k ∨ w.heap.size ≤ k
theorem Step.trans {base : Nat} {w w1 w2 : World} {b : Nat} {V V1 V2 : Nat → Value} {n1 n2 : Nat} {m1 m2 : Value} {F1 F2 : Nat → Nat} {L1 L2 : Nat → List ItemN} (h : Step base w b V w1 n1 m1 V1 F1 L1) (k : Step base w1 b V1 w2 n2 m2 V2 F2 L2) : Step base w b V w2 n2 m2 V2 F2 L2 :=
  ⟨k.wh, h.kp.trans k.kp h.own, fun x hx => by
    rcases k.own x hx with e | e
    · exact h.own x e
    · have := h.kp.size; exact .inr (by omega)⟩
theorem Step.below {base : Nat} {w w1 w2 : World} {b : Nat} {V V1 : Nat → Value} {n1 : Nat} {m1 : Value} {F1 : Nat → Nat} {L1 : Nat → List ItemN} (h : Step base w b V w1 n1 m1 V1 F1 L1) (k : Below w1.heap.size w1 w2) : Step base w b V w2 n1 m1 V1 F1 L1 :=
  ⟨h.wh.below k, h.kp.trans (Kp.ofBelow (O := OwnL b V1) k) h.own, h.own⟩
theorem Step.ahead {base : Nat} {w w1 w2 : World} {b : Nat} {V V1 : Nat → Value} {n1 : Nat} {m1 : Value} {F1 : Nat → Nat} {L1 : Nat → List ItemN} (k : Below w.heap.size w w1) (h : Step base w1 b V w2 n1 m1 V1 F1 L1) : Step base w b V w2 n1 m1 V1 F1 L1 :=
  ⟨h.wh, (Kp.ofBelow (O := OwnL b V) k).trans h.kp (fun i hi => .inl hi), fun x hx => by
    rcases h.own x hx with e | e
    · exact .inl e
    · have := k.size; exact .inr (by omega)⟩
/-- One of its lists turned. -/
theorem Wh.upd {base : Nat} {w w' : World} {b now : Nat} {m : Value} {V : Nat → Value} {F F' : Nat → Nat} {L : Nat → List ItemN} (h : Wh base w b now m V F L) {c : Nat} (hc : IsL c) {v' : Value} {l' : List ItemN} {f : Nat → Option Value}
    (u : Upd base b w (V c) w' v' l' f) (hfc : f c = some v') (hfo : ∀ d, d ≠ c → (d = 0 ∨ d = 1 ∨ IsL d) → f d = vw w b d) (hff : ∀ i, i < 6 → f (3 + i * 65) = some (.int .u64 (F' i : Int))) :
    Step base w b V w' now m (putV V c v') F' (put L c l') := by
  have hc2 := isL_big hc
  have hown : ∀ k, v'.ownBlock = some k → (V c).ownBlock = some k ∨ w.heap.size ≤ k := u.own
  refine ⟨⟨h.low, Nat.lt_of_lt_of_le h.lt u.size, fun d => u.free d (h.free d), ?_, ?_, fun d hd => ?_, fun i hi => (u.view _).trans (hff i hi), fun d hd => ?_, fun x y hx hy hne k hk => ?_, fun x hx => ?_⟩, ⟨u.os, u.tape, u.output, u.size, fun k hk hn => ?_⟩, fun k hk => ?_⟩
  · exact (u.view 0).trans ((hfo 0 (by omega) (.inl rfl)).trans h.now)
  · exact (u.view 1).trans ((hfo 1 (by omega) (.inr (.inl rfl))).trans h.times)
  · rw [u.view]
    by_cases e : d = c
    · subst e; rw [putV_same]; exact hfc
    · rw [putV_other _ _ e, hfo d e (.inr (.inr hd))]
      exact h.slot d hd
  · by_cases e : d = c
    · subst e; rw [putV_same, put_same]; exact u.row
    · rw [putV_other _ _ e, put_other _ _ _ e]
      obtain ⟨r1, r2⟩ := h.row d hd
      refine ⟨r1, ?_⟩
      rcases r2 with r2 | ⟨g, cap, cur, e1, e2, e3, e4⟩
      · exact .inl r2
      · refine .inr ⟨g, cap, cur, e1, e2, ?_, e4⟩
        have hg : (V d).ownBlock = some g := by rw [e1]; rfl
        rw [u.block g (Array.getElem?_eq_some_iff.1 e3).1 (fun eb => h.nb d hd (by rw [hg, eb])) (fun ec => h.apart d c hd hc e g hg ec)]
        exact e3
  · by_cases ex : x = c
    · subst ex
      rw [putV_same] at hk
      rw [putV_other _ _ (Ne.symm hne)]
      intro hk2
      rcases hown k hk with g | g
      · exact h.apart x y hx hy hne k g hk2
      · have := (World.ownsRow.lt (h.row y hy) k hk2).2; omega
    · rw [putV_other _ _ ex] at hk
      by_cases ey : y = c
      · subst ey
        rw [putV_same]
        intro hk2
        rcases hown k hk2 with g | g
        · exact h.apart x y hx hy hne k hk g
        · have := (World.ownsRow.lt (h.row x hx) k hk).2; omega
      · rw [putV_other _ _ ey]
        exact h.apart x y hx hy hne k hk
  · by_cases ex : x = c
    · subst ex; rw [putV_same]; exact u.nb
    · rw [putV_other _ _ ex]; exact h.nb x hx
  · exact u.block k hk (fun e => hn (.inl e)) (fun e => hn (.inr ⟨c, hc, e⟩))
  · rcases hk with e | ⟨d, hd, e⟩
    · exact .inl (.inl e)
    · by_cases ed : d = c
      · subst ed
        rw [putV_same] at e
        rcases hown k e with g | g
        · exact .inl (.inr ⟨d, hd, g⟩)
        · exact .inr g
      · rw [putV_other _ _ ed] at e
        exact .inl (.inr ⟨d, hd, e⟩)
end Go.Proofs.YtoihekgmomjhpaaGreatDoor.W
