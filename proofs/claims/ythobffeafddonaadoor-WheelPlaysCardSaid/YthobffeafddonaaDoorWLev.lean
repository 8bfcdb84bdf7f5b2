/-
  Layer 6: a level's methods: first, add, remove, empty.
-/
import Derived.Test.YthobffeafddonaaDoorWIns
set_option linter.unusedVariables false
namespace Go.Proofs.YthobffeafddonaaDoor
open Go.RowKit Whl

theorem step_append_at {P : Program} {ops : Array Oper} {o : Oper} {a : Act} {w : World} {K : Act → World → Prop} {Q : Exit → Act → World → Prop} {E : Prop}
    (hg : o.guard = none) (d x : Operand) (dT sT : TypeId) (hop : o.op = Op.call { callee := Callee.builtin Builtin.append, args := #[d, x], argTypes := #[dT, sT] })
    (v u : Value) (hd : a.eval d = v) (hx : a.eval x = u) {v' : Value} {w' : World} (hr : (Builtin.append_ #[dT, sT] o.type #[v, u]).run P w = .ok v' w') (hK : K (a.put o.dst v') w') :
    if Region.wanted o (yielded ops a.tmps) = true then Oper.wp P o a w K Q else E := by
  have hw : Region.wanted o (yielded ops a.tmps) = true := by simp [Region.wanted, hg]
  rw [if_pos hw]
  unfold Oper.wp
  simp [execOp, hop, resolve, invoke, builtin, hd, hx, hr, Result.andThen]
  exact hK

theorem append_pair (base : Nat) (v : Value) (l : List ItemN) (p : ItemN) (vb : Nat) (w : World) (hr : Rw base w v l) (hv : Bk vb w p) (hb : base ≤ w.heap.size) (hlen : l.length ≤ 1000000) :
    ∃ v' w', (Builtin.append_ #[39, 39] 39 #[v, .slice (some ⟨vb, 0, none⟩) 1 1]).run Tryd.prog w = .ok v' w' ∧ Turned base w v w' v' (l ++ [p]) := by
  obtain ⟨i0, hi0, hz0, hzs, hzb⟩ := info_parts info52
  obtain ⟨v', w', h1, h2, h3, h4⟩ := run_append_own_at w base 39 39 52 i0 _ 2 16 Tryd.underlying39 hi0 hz0 hzs hzb rfl (by omega) v l.length (flat l) hr ⟨vb, 0, none⟩ 1 1 (flat [p]) rfl (pair_news hv) (flat_one _) (by unfold maxLen; omega) (by omega) hb
  exact ⟨v', w', h1, by unfold Rw; rw [List.length_append, flat_app]; exact h2, h3, fun k hk => by
    rcases h4.2 with e | e
    · exact .inl (e ▸ hk)
    · rw [e] at hk; injection hk with hk; exact .inr (by omega)⟩

/-- The cells of a block, and with one written. -/
def vw (w : World) (b : Nat) : Nat → Option Value := fun d => w.cell? ⟨b, d, none⟩
def upd1 (f : Nat → Option Value) (c : Nat) (x : Value) : Nat → Option Value := fun d => if d = c then some x else f d
theorem upd1_same (f : Nat → Option Value) (c : Nat) (x : Value) : upd1 f c x c = some x := if_pos rfl
theorem upd1_other (f : Nat → Option Value) {c d : Nat} (x : Value) (h : d ≠ c) : upd1 f c x d = f d := if_neg h
/-- A block of cells of which one held a list: only its cells, and the list's own block, have turned. -/
structure Upd (base b : Nat) (w : World) (v : Value) (w' : World) (v' : Value) (l' : List ItemN) (f : Nat → Option Value) : Prop where
  view : ∀ d, w'.cell? ⟨b, d, none⟩ = f d
  row : Rw base w' v' l'
  free : ∀ d, w.frozen? ⟨b, d, none⟩ = false → w'.frozen? ⟨b, d, none⟩ = false
  block : ∀ k, k < w.heap.size → k ≠ b → v.ownBlock ≠ some k → w'.heap[k]? = w.heap[k]?
  size : w.heap.size ≤ w'.heap.size
  os : w'.os = w.os
  tape : w'.tape = w.tape
  output : w'.output = w.output
  own : ∀ k, v'.ownBlock = some k → v.ownBlock = some k ∨ w.heap.size ≤ k
  nb : v'.ownBlock ≠ some b
theorem Upd.drew {base b : Nat} {w w' : World} {v v' : Value} {l' : List ItemN} {f : Nat → Option Value} (h : Upd base b w v w' v' l' f) : Upd base b w v w'.drew v' l' f :=
  ⟨h.view, h.row, h.free, h.block, h.size, h.os, h.tape, h.output, h.own, h.nb⟩
theorem Upd.drewN {base b : Nat} {w w' : World} {v v' : Value} {l' : List ItemN} {f : Nat → Option Value} (h : Upd base b w v w' v' l' f) : ∀ n, Upd base b w v (w'.drewN n) v' l' f
  | 0 => h
  | n + 1 => (h.drewN n).drew
theorem set_view {w : World} {b : Nat} {f : Nat → Option Value} (hf : ∀ d, w.cell? ⟨b, d, none⟩ = f d) {o : Nat} (ho : (f o).isSome = true) (x : Value) : ∀ d, (w.setCell ⟨b, o, none⟩ x).cell? ⟨b, d, none⟩ = upd1 f o x d := by
  intro d
  by_cases hd : d = o
  · subst hd
    rw [upd1_same]
    exact World.cell?_setCell_same' _ _ _ (by rw [hf]; exact ho)
  · rw [upd1_other _ _ hd, World.cell?_setCell_other _ _ _ _ (by intro e; injection e with _ e2; exact hd e2.symm)]
    exact hf d
theorem Upd.set {base b : Nat} {w w' : World} {v v' : Value} {l' : List ItemN} {f : Nat → Option Value} (h : Upd base b w v w' v' l' f) {o : Nat} (ho : (f o).isSome = true) (x : Value) : Upd base b w v (w'.setCell ⟨b, o, none⟩ x) v' l' (upd1 f o x) := by
  refine ⟨set_view h.view ho x, ?_, fun d hd => by rw [World.frozen?_setCell]; exact h.free d hd, fun k hk hkb hkv => ?_, ?_, h.os, h.tape, h.output, h.own, h.nb⟩
  · exact World.ownsRow.kept h.row (row := some b) ⟨rfl, rfl, rfl, by simp [World.setCell], fun k _ hk => heap_setCell_other _ _ _ _ (fun e => hk (by rw [e]))⟩ (.inr h.nb)
  · rw [heap_setCell_other _ _ _ _ hkb]
    exact h.block k hk hkb hkv
  · have := h.size
    simp [World.setCell]
    exact this

/-- What a call made of a list is stored where the list was. -/
theorem Upd.store {base b c : Nat} {w w1 w2 : World} {v v' : Value} {l' : List ItemN} (k : Below w.heap.size w w1) (t : Turned base w1 v w2 v' l') (hb : b < w.heap.size) (hv : v.ownBlock ≠ some b) (hc : (w.cell? ⟨b, c, none⟩).isSome = true) :
    Upd base b w v (w2.setCell ⟨b, c, none⟩ v') v' l' (upd1 (vw w b) c v') := by
  have e2 : w2.heap[b]? = w.heap[b]? := (t.grown.block b (Nat.lt_of_lt_of_le hb k.size) (fun e => hv e.symm)).trans (k.block b hb)
  have hvb : v'.ownBlock ≠ some b := fun e => by
    rcases t.own b e with h | h
    · exact hv h
    · have := k.size; omega
  have h0 : Upd base b w v w2 v' l' (vw w b) := by
    refine ⟨fun d => World.cell?_of_block (w := w) (a := ⟨b, d, none⟩) e2, t.row, fun d hd => ?_, fun x hx hxb hxv => ?_, Nat.le_trans k.size t.grown.size, t.grown.os.trans k.os, t.grown.tape.trans k.tape, t.grown.output.trans k.output, fun x hx => ?_, hvb⟩
    · rw [World.frozen?_of_block (w := w) (a := ⟨b, d, none⟩) e2]; exact hd
    · rw [t.grown.block x (Nat.lt_of_lt_of_le hx k.size) (fun e => hxv e.symm), k.block x hx]
    · rcases t.own x hx with h | h
      · exact .inl h
      · have := k.size; exact .inr (by omega)
  exact h0.set hc v'

theorem or_bit {F s : Nat} (hF : F < 18446744073709551616) (hs : s < 64) : bits .or .u64 (F : Int) (IntKind.u64.wrap (2 ^ s)) = ((F ||| 2 ^ s : Nat) : Int) := by
  have hp : 2 ^ s < 18446744073709551616 := Nat.lt_of_le_of_lt (Nat.pow_le_pow_right (by omega) (show s ≤ 63 by omega)) (by decide)
  have e : IntKind.u64.wrap ((2 : Int) ^ s) = ((2 ^ s : Nat) : Int) := by
    rw [IntKind.wrap_u64, show (2 : Int) ^ s = ((2 ^ s : Nat) : Int) by simp]
    exact Int.emod_eq_of_lt (Int.natCast_nonneg _) (Int.ofNat_lt.2 hp)
  rw [e, bits_or_u64_nat F _ hF hp]
def lessBit (F s : Nat) : Nat := F &&& (2 ^ 64 - (2 ^ s + 1))
theorem andNot_bit {F s : Nat} (hF : F < 18446744073709551616) (hs : s < 64) : bits .andNot .u64 (F : Int) (IntKind.u64.wrap (2 ^ s)) = ((lessBit F s : Nat) : Int) := by
  have hp : 2 ^ s < 18446744073709551616 := Nat.lt_of_le_of_lt (Nat.pow_le_pow_right (by omega) (show s ≤ 63 by omega)) (by decide)
  have e : IntKind.u64.wrap ((2 : Int) ^ s) = ((2 ^ s : Nat) : Int) := by
    rw [IntKind.wrap_u64, show (2 : Int) ^ s = ((2 ^ s : Nat) : Int) by simp]
    exact Int.emod_eq_of_lt (Int.natCast_nonneg _) (Int.ofNat_lt.2 hp)
  have hx : F &&& (2 ^ 64 - 1 - 2 ^ s) ≤ F := Nat.and_le_left
  have h1 : (BitVec.ofInt 64 (F : Int)).toNat = F := by
    rw [BitVec.ofInt_natCast, BitVec.toNat_ofNat]; exact Nat.mod_eq_of_lt (by omega)
  have h2 : (BitVec.ofInt 64 ((2 ^ s : Nat) : Int)).toNat = 2 ^ s := by
    rw [BitVec.ofInt_natCast, BitVec.toNat_ofNat]; exact Nat.mod_eq_of_lt (by omega)
  rw [e]
  show IntKind.u64.wrap ((BitVec.ofInt 64 (F : Int) &&& ~~~ BitVec.ofInt 64 ((2 ^ s : Nat) : Int)).toNat : Int) = _
  rw [BitVec.toNat_and, BitVec.toNat_not, h1, h2, IntKind.wrap_u64]
  unfold lessBit
  rw [show 2 ^ 64 - (2 ^ s + 1) = 2 ^ 64 - 1 - 2 ^ s by omega]
  omega
theorem lessBit_bit {F s i : Nat} (hF : F < 18446744073709551616) (hs : s < 64) : (lessBit F s).testBit i = (F.testBit i && !decide (i = s)) := by
  have hp : 2 ^ s < 2 ^ 64 := Nat.pow_lt_pow_right (by omega) hs
  unfold lessBit
  rw [Nat.testBit_and, Nat.testBit_two_pow_sub_succ hp, Nat.testBit_two_pow]
  by_cases hi : i < 64
  · simp [hi, eq_comm]
  · have : F.testBit i = false := Nat.testBit_lt_two_pow (Nat.lt_of_lt_of_le hF (Nat.le_trans (by decide : 18446744073709551616 ≤ 2 ^ 64) (Nat.pow_le_pow_right (by omega) (by omega))))
    simp [this]
theorem lessBit_lt {F s : Nat} (hF : F < 18446744073709551616) : lessBit F s < 18446744073709551616 := Nat.lt_of_le_of_lt Nat.and_le_left hF
theorem orBit_bit {F s i : Nat} : (F ||| 2 ^ s).testBit i = (F.testBit i || decide (i = s)) := by
  rw [Nat.testBit_or, Nat.testBit_two_pow]
  simp [eq_comm]
theorem orBit_lt {F s : Nat} (hF : F < 18446744073709551616) (hs : s < 64) : F ||| 2 ^ s < 18446744073709551616 :=
  Nat.or_lt_two_pow (n := 64) hF (Nat.pow_lt_pow_right (by omega) hs)

set_option maxHeartbeats 2000000 in
set_option maxRecDepth 100000 in
theorem add_any (base b o s F : Nat) (v : Value) (l : List ItemN) (p : ItemN) (w : World) (hF : w.cell? ⟨b, o, none⟩ = some (.int .u64 (F : Int))) (hF2 : F < 18446744073709551616) (hS : w.cell? ⟨b, o + 1 + s, none⟩ = some v) (hs : s < 64)
    (f1 : w.frozen? ⟨b, o, none⟩ = false) (f2 : w.frozen? ⟨b, o + 1 + s, none⟩ = false) (hr : Rw base w v l) (hvb : v.ownBlock ≠ some b) (hbase : base ≤ w.heap.size) (hlen : l.length ≤ 1000000) :
    Calls Tryd.prog 37 #[.pointer (some ⟨b, o, none⟩), .int .i64 s, pairV p] w fun e w' => e = .returned (.tuple #[]) ∧ ∃ v', Upd base b w v w' v' (l ++ [p]) (upd1 (upd1 (vw w b) (o + 1 + s) v') o (.int .u64 ((F ||| 2 ^ s : Nat) : Int))) := by
  have hb : b < w.heap.size := World.block_lt_of_cell? w _ hF
  have hvl : ∀ k, v.ownBlock = some k → k < w.heap.size := fun k hk => (World.ownsRow.lt hr k hk).2
  have B1 := Bx.start w p
  have k1 := Lib.hid ((Below.refl w.heap.size w).alloc (Nat.le_refl _) (.cells #[.int .i64 (p.1 : Int), .int .i64 (p.2 : Int)] 52))
  have w1z : Hid ((w.alloc (.cells #[.int .i64 (p.1 : Int), .int .i64 (p.2 : Int)] 52)).heap.size = w.heap.size + 1) := by unfold Hid; simp
  have hS1 : Hid (∀ W, Below (w.alloc (.cells #[.int .i64 (p.1 : Int), .int .i64 (p.2 : Int)] 52)).heap.size (w.alloc (.cells #[.int .i64 (p.1 : Int), .int .i64 (p.2 : Int)] 52)) W → W.cell? ⟨b, o + 1 + s, none⟩ = some v ∧ W.cell? ⟨w.heap.size, 0, none⟩ = some (.int .i64 (p.1 : Int)) ∧ W.cell? ⟨w.heap.size, 1, none⟩ = some (.int .i64 (p.2 : Int))) := fun W hW => by
    refine ⟨?_, (B1.below hW).c0, (B1.below hW).c1⟩
    rw [World.cell?_of_block (hW.block b (by have := w1z.out; omega))]
    rw [World.cell?_of_block (k1.out.block b hb)]
    exact hS
  obtain ⟨p0, p1⟩ := p
  unfold pairV
  simp only at hS1 k1 w1z B1
  go_enter Tryd.func37, Tryd.ntmps37
  go_upto_region 1 with fail
  have hz := w1z.out
  generalize hw1 : w.alloc (.cells #[.int .i64 (p0 : Int), .int .i64 (p1 : Int)] 52) = w1 at *
  have R1 : Rw base w1 v l := hr.below k1.out
  have kA : Below w1.heap.size w1 (w1.alloc (.cells #[.int .i64 (p0 : Int), .int .i64 (p1 : Int)] 52)).drew := ((Below.refl _ _).alloc (Nat.le_refl _) _).drew
  obtain ⟨v8, w8, hrun, T8⟩ := append_pair base v l (p0, p1) w1.heap.size (w1.alloc (.cells #[.int .i64 (p0 : Int), .int .i64 (p1 : Int)] 52)).drew (R1.below kA) (Go.heap_alloc_new w1 _) (Nat.le_trans hbase (Nat.le_trans k1.out.size kA.size)) hlen
  obtain ⟨a8, cap8, rfl, _, _, _⟩ := T8.row.look
  have U := Lib.hid (Upd.store (b := b) (c := o + 1 + s) (k1.out.trans (kA.mono k1.out.size)) T8 hb hvb (by rw [hS]; rfl))
  have e8 : w8.heap[b]? = w.heap[b]? := (T8.grown.block b (Nat.lt_of_lt_of_le hb (Nat.le_trans k1.out.size kA.size)) (fun e => hvb e.symm)).trans ((kA.block b (by omega)).trans (k1.out.block b hb))
  have c8 : w8.cell? ⟨b, o + 1 + s, none⟩ = some v := (World.cell?_of_block (w := w) (a := ⟨b, o + 1 + s, none⟩) e8).trans hS
  have f8 : w8.frozen? ⟨b, o + 1 + s, none⟩ = false := (World.frozen?_of_block (w := w) (a := ⟨b, o + 1 + s, none⟩) e8).trans f2
  obtain ⟨a1, a2, a3⟩ := hS1.out w1 (Below.refl _ _)
  obtain ⟨b1, b2, b3⟩ := hS1.out (w1.alloc (.cells #[.int .i64 (p0 : Int), .int .i64 (p1 : Int)] 52)) ((Below.refl _ _).alloc (Nat.le_refl _) _)
  have F1 : (w8.setCell ⟨b, o + 1 + s, none⟩ (.slice a8 (l ++ [(p0, p1)]).length cap8)).cell? ⟨b, o, none⟩ = some (.int .u64 (F : Int)) := (U.out.view o).trans ((upd1_other _ _ (by omega)).trans hF)
  have F2 : (w8.setCell ⟨b, o + 1 + s, none⟩ (.slice a8 (l ++ [(p0, p1)]).length cap8)).frozen? ⟨b, o, none⟩ = false := U.out.free o f1
  have hs1 : (s : Int) < 64 := by omega
  generalize (l ++ [(p0, p1)]).length = n8 at *
  have ho : Hid ((upd1 (vw w b) (o + 1 + s) (.slice a8 n8 cap8) o).isSome = true) := by
    unfold Hid
    rw [upd1_other _ _ (by omega)]
    show (w.cell? _).isSome = true
    rw [hF]; rfl
  have hor := or_bit hF2 hs
  clear e8 T8 R1 kA hS1 hw1 hz w1z hr k1 hlen hbase hvl B1 hF hS f1 f2
  replace hrun := Lib.hid hrun
  go_region_law (refine step_append_at (by rfl) _ _ 39 39 (by rfl) _ _ (by rfl) (by rfl) hrun.out ?_)
  all_goals
    clear hrun c8 f8 a1 a2 a3 b1 b2 b3
    generalize w8.setCell ⟨b, o + 1 + s, none⟩ (.slice a8 n8 cap8) = w9 at *
    go_upto_region 2 with fail
    go_region
    go_end0
    exact ⟨rfl, _, (U.out.set ho.out _).drew⟩

set_option maxHeartbeats 2000000 in
set_option maxRecDepth 100000 in
theorem empty_any (base b o s F : Nat) (v : Value) (l : List ItemN) (w : World) (hF : w.cell? ⟨b, o, none⟩ = some (.int .u64 (F : Int))) (hF2 : F < 18446744073709551616) (hS : w.cell? ⟨b, o + 1 + s, none⟩ = some v) (hs : s < 64)
    (f1 : w.frozen? ⟨b, o, none⟩ = false) (f2 : w.frozen? ⟨b, o + 1 + s, none⟩ = false) (hr : Rw base w v l) (hvb : v.ownBlock ≠ some b) :
    Calls Tryd.prog 40 #[.pointer (some ⟨b, o, none⟩), .int .i64 s] w fun e w' => e = .returned v ∧ Upd base b w v w' (.slice none 0 0) [] (upd1 (upd1 (vw w b) (o + 1 + s) (.slice none 0 0)) o (.int .u64 ((lessBit F s : Nat) : Int))) ∧ Rw base w' v l := by
  have hb : b < w.heap.size := World.block_lt_of_cell? w _ hF
  have U0 : Upd base b w v w (.slice none 0 0) [] (vw w b) := ⟨fun _ => rfl, Rw.nil _ _, fun _ h => h, fun _ _ _ _ => rfl, Nat.le_refl _, rfl, rfl, rfl, fun k hk => by simp [Value.ownBlock] at hk, by simp [Value.ownBlock]⟩
  have U := Lib.hid (U0.set (o := o + 1 + s) (by show (w.cell? _).isSome = true; rw [hS]; rfl) (.slice none 0 0))
  have F1 : (w.setCell ⟨b, o + 1 + s, none⟩ (.slice none 0 0)).cell? ⟨b, o, none⟩ = some (.int .u64 (F : Int)) := (U.out.view o).trans ((upd1_other _ _ (by omega)).trans hF)
  have F2 : (w.setCell ⟨b, o + 1 + s, none⟩ (.slice none 0 0)).frozen? ⟨b, o, none⟩ = false := U.out.free o f1
  have ho : Hid ((upd1 (vw w b) (o + 1 + s) (.slice none 0 0) o).isSome = true) := by
    unfold Hid
    rw [upd1_other _ _ (by omega)]
    show (w.cell? _).isSome = true
    rw [hF]; rfl
  have hor := andNot_bit hF2 hs
  have hs1 : (s : Int) < 64 := by omega
  have R1 : Hid (Rw base (w.setCell ⟨b, o + 1 + s, none⟩ (.slice none 0 0)) v l) := World.ownsRow.kept hr (row := some b) ⟨rfl, rfl, rfl, by simp [World.setCell], fun k _ hk => heap_setCell_other _ _ _ _ (fun e => hk (by rw [e]))⟩ (.inr hvb)
  obtain ⟨a, cap, rfl, _, _, _⟩ := hr.look
  clear U0 hr hF f1
  generalize hn : l.length = n at *
  go_enter Tryd.func40, Tryd.ntmps40
  go_wp2_with fail
  clear hS f2
  generalize w.setCell ⟨b, o + 1 + s, none⟩ (.slice none 0 0) = w9 at *
  go_region
  all_goals
    go_wp2_with fail
    go_ret
    exact ⟨rfl, (U.out.set ho.out _).drew, World.ownsRow.kept R1.out (row := some b) ⟨rfl, rfl, rfl, by simp [World.setCell, World.drew], fun k _ hk => heap_setCell_other _ _ _ _ (fun e => hk (by rw [e]))⟩ (.inr hvb)⟩
theorem first_none (b o : Nat) (w : World) (hF : w.cell? ⟨b, o, none⟩ = some (.int .u64 0)) : Calls Tryd.prog 29 #[.pointer (some ⟨b, o, none⟩)] w fun e w' => e = .returned (.tuple #[.int .i64 0, .bool false]) ∧ w = w' := by
  go_enter Tryd.func29, Tryd.ntmps29
  go_wp2_with fail
  go_ret2
  exact ⟨rfl, rfl⟩
theorem first_some (b o F : Nat) (w : World) (hF : w.cell? ⟨b, o, none⟩ = some (.int .u64 (F : Int))) (h0 : F ≠ 0) (h1 : F < 18446744073709551616) (t : Bru w) : Calls Tryd.prog 29 #[.pointer (some ⟨b, o, none⟩)] w fun e w' => e = .returned (.tuple #[.int .i64 (Lib.ctz 64 F : Nat), .bool true]) ∧ w = w' := by
  have cz := Lib.hid (zeros_any F h1 h0 w t)
  have hb : ((F : Int) == 0) = false := by rw [beq_eq_false_iff_ne]; omega
  replace h0 := Lib.hid h0
  go_enter Tryd.func29, Tryd.ntmps29
  go_wp2_with fail
  refine cz.out.mono ?_
  rintro e w1 ⟨rfl, rfl⟩
  go_wp2_with fail
  go_ret2
  exact ⟨rfl, rfl⟩

/-- The cells behind a removal: where the list is empty its bit goes, too. -/
def remF (f : Nat → Option Value) (c o : Nat) (x : Value) (l : List ItemN) (v : Value) : Nat → Option Value := if l = [] then upd1 (upd1 f c v) o x else upd1 f c v
set_option maxHeartbeats 4000000 in
set_option maxRecDepth 100000 in
theorem remove_any (base b o s F : Nat) (v : Value) (l : List ItemN) (p : ItemN) (w : World) (hF : w.cell? ⟨b, o, none⟩ = some (.int .u64 (F : Int))) (hF2 : F < 18446744073709551616) (hS : w.cell? ⟨b, o + 1 + s, none⟩ = some v) (hs : s < 64)
    (f1 : w.frozen? ⟨b, o, none⟩ = false) (f2 : w.frozen? ⟨b, o + 1 + s, none⟩ = false) (hr : Rw base w v l) (hvb : v.ownBlock ≠ some b) (hbase : base ≤ w.heap.size) (hlen : l.length ≤ 1000000) (hp : p ∈ l) :
    Calls Tryd.prog 33 #[.pointer (some ⟨b, o, none⟩), .int .i64 s, pairV p] w fun e w' => e = .returned (.tuple #[]) ∧ ∃ v', Upd base b w v w' v' (l.erase p) (remF (vw w b) (o + 1 + s) o (.int .u64 ((lessBit F s : Nat) : Int)) (l.erase p) v') := by
  have hb : b < w.heap.size := World.block_lt_of_cell? w _ hF
  have B1 := Bx.start w p
  have k1 := Lib.hid ((Below.refl w.heap.size w).alloc (Nat.le_refl _) (.cells #[.int .i64 (p.1 : Int), .int .i64 (p.2 : Int)] 52))
  have w1z : (w.alloc (.cells #[.int .i64 (p.1 : Int), .int .i64 (p.2 : Int)] 52)).heap.size = w.heap.size + 1 := by simp
  obtain ⟨w1, hw1⟩ : ∃ w1, w.alloc (.cells #[.int .i64 (p.1 : Int), .int .i64 (p.2 : Int)] 52) = w1 := ⟨_, rfl⟩
  rw [hw1] at B1 k1 w1z
  have c1 : w1.cell? ⟨b, o + 1 + s, none⟩ = some v := (World.cell?_of_block (w := w) (k1.out.block b hb)).trans hS
  obtain ⟨d0, d1⟩ := B1
  have hfr : Hid (∀ w8 v8, Turned base w1.drew v w8 v8 (l.erase p) → w8.cell? ⟨b, o + 1 + s, none⟩ = some v ∧ w8.frozen? ⟨b, o + 1 + s, none⟩ = false ∧ Upd base b w v (w8.setCell ⟨b, o + 1 + s, none⟩ v8) v8 (l.erase p) (upd1 (vw w b) (o + 1 + s) v8)) := fun w8 v8 T => by
    have e8 : w8.heap[b]? = w.heap[b]? := (T.grown.block b (Nat.lt_of_lt_of_le hb k1.out.size) (fun e => hvb e.symm)).trans (k1.out.block b hb)
    exact ⟨(World.cell?_of_block (w := w) (a := ⟨b, o + 1 + s, none⟩) e8).trans hS, (World.frozen?_of_block (w := w) (a := ⟨b, o + 1 + s, none⟩) e8).trans f2, Upd.store (w1 := w1.drew) k1.out.drew T hb hvb (by rw [hS]; rfl)⟩
  have cw := Lib.hid (without_any base v l p w1.drew (hr.below k1.out.drew) hp hlen)
  have hoF : Hid (∀ v8, (upd1 (vw w b) (o + 1 + s) v8 o) = some (.int .u64 (F : Int))) := fun v8 => by
    rw [upd1_other _ _ (by omega)]; exact hF
  have hand := andNot_bit hF2 hs
  have hs1 : (s : Int) < 64 := by omega
  generalize l.erase p = l8 at *
  obtain ⟨p0, p1⟩ := p
  unfold pairV at *
  simp only at hw1 d0 d1 cw
  clear hS f2 hr hp hlen hbase k1 w1z
  go_enter Tryd.func33, Tryd.ntmps33
  go_upto_region 1 with fail
  clear hw1
  go_cut [] from 15 (fun wc => ∃ v8, Hid (Upd base b w v wc v8 l8 (upd1 (vw w b) (o + 1 + s) v8)))
  case first =>
    go_region_with (first
      | (go_at_call 31; (with_reducible refine cw.out.mono ?_); rintro e w8 ⟨v8, rfl, T8⟩; obtain ⟨a8, cap8, rfl, _, _, _⟩ := T8.row.look; obtain ⟨x1, x2, x3⟩ := hfr.out _ _ T8; replace x3 := Lib.hid x3; clear T8))
    all_goals
      go_wp2_with fail
      go_meet
      exact ⟨_, x3⟩
  case rest =>
    obtain ⟨v8, U⟩ := hcut
    obtain ⟨a8, cap8, rfl, _, _, _⟩ := U.out.row.look
    have g1 : wc.cell? ⟨b, o + 1 + s, none⟩ = some (.slice a8 l8.length cap8) := (U.out.view _).trans (upd1_same _ _ _)
    have g2 : wc.cell? ⟨b, o, none⟩ = some (.int .u64 (F : Int)) := (U.out.view o).trans (hoF.out _)
    have g3 : wc.frozen? ⟨b, o, none⟩ = false := U.out.free o f1
    have ho : Hid ((upd1 (vw w b) (o + 1 + s) (.slice a8 l8.length cap8) o).isSome = true) := by unfold Hid; rw [hoF.out]; rfl
    clear hoF hfr cw c1 d0 d1 hF f1
    by_cases h8 : l8 = []
    · have h8l : l8.length = 0 := by rw [h8]; rfl
      rw [h8l] at g1 ho
      have U2 := U
      rw [h8l] at U2
      clear U
      have h8' := Lib.hid h8
      clear h8 h8l
      go_wp2_with fail
      go_region
      all_goals
        go_end0
        refine ⟨rfl, .slice a8 0 cap8, ?_⟩
        unfold remF
        rw [if_pos h8'.out]
        exact (U2.out.set ho.out _).drew
    · have hz : ((l8.length : Int) == 0) = false := by
        rw [beq_eq_false_iff_ne]
        have : 0 < l8.length := List.length_pos_iff.2 h8
        omega
      have h8' := Lib.hid h8
      clear h8
      generalize hn : l8.length = n8 at *
      clear hn
      go_wp2_with fail
      go_end0
      refine ⟨rfl, .slice a8 n8 cap8, ?_⟩
      unfold remF
      rw [if_neg h8'.out]
      exact U.out
end Go.Proofs.YthobffeafddonaaDoor
