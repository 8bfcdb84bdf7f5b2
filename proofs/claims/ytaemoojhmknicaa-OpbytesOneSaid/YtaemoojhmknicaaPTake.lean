/-
  Layer 10: Take: the operation that comes next of a reader. Condition: at most 100000 bytes are left.
-/
import Derived.Test.YtaemoojhmknicaaPMay
import Derived.Deep.DeepCutAuto
set_option linter.unusedVariables false
namespace Go.Proofs.Ytaemoojhmknicaa
open Go.RowKit Cod

/-- An operation's cells in a block. -/
structure OpAt (w : World) (q : Nat) (k : Int) (m : Nat → Int) (c : ByteArray) : Prop where
  lt : q < w.heap.size
  c0 : w.cell? ⟨q, 0, none⟩ = some (.int .i64 k)
  cm : ∀ j, j < 8 → w.cell? ⟨q, j + 1, none⟩ = some (.int .i64 (m j))
  c9 : w.cell? ⟨q, 9, none⟩ = some (.string c)
  fz : ∀ j, w.frozen? ⟨q, j, none⟩ = false
section
variable {w w' : World} {q : Nat} {k : Int} {m : Nat → Int} {c : ByteArray}
theorem OpAt.same (t : OpAt w q k m c) (hs : w.heap.size ≤ w'.heap.size) (e : w'.heap[q]? = w.heap[q]?) : OpAt w' q k m c :=
  ⟨Nat.lt_of_lt_of_le t.lt hs, (World.cell?_of_block (w := w) e).trans t.c0, fun j hj => (World.cell?_of_block (w := w) e).trans (t.cm j hj), (World.cell?_of_block (w := w) e).trans t.c9, fun j => (World.frozen?_of_block (w := w) e).trans (t.fz j)⟩
theorem OpAt.below (t : OpAt w q k m c) (h : Below w.heap.size w w') : OpAt w' q k m c := t.same h.size (h.block q t.lt)
theorem OpAt.kept {b : Nat} (t : OpAt w q k m c) (h : Kept b w w') (hb : q ≠ b) : OpAt w' q k m c := t.same h.size (h.block q t.lt hb)
theorem OpAt.put (t : OpAt w q k m c) (i : Nat) (hi : i < 8) (x : Int) : OpAt (w.setCell ⟨q, i + 1, none⟩ (.int .i64 x)) q k (fun j => if j = i then x else m j) c := by
  refine ⟨by simpa [World.setCell] using t.lt, (World.cell?_setCell_other _ _ _ _ (off_ne (by omega))).trans t.c0, fun j hj => ?_, (World.cell?_setCell_other _ _ _ _ (off_ne (by omega))).trans t.c9, fun o => by simp [t.fz o]⟩
  by_cases h : j = i
  · subst h
    rw [if_pos rfl]
    exact World.cell?_setCell_same _ _ _ (t.cm j hj)
  · rw [if_neg h]
    exact (World.cell?_setCell_other _ _ _ _ (off_ne (by omega))).trans (t.cm j hj)
theorem OpAt.cron (t : OpAt w q k m c) (s : ByteArray) : OpAt (w.setCell ⟨q, 9, none⟩ (.string s)) q k m s :=
  ⟨by simpa [World.setCell] using t.lt, (World.cell?_setCell_other _ _ _ _ (off_ne (by omega))).trans t.c0, fun j hj => (World.cell?_setCell_other _ _ _ _ (off_ne (by omega))).trans (t.cm j hj), World.cell?_setCell_same _ _ _ t.c9, fun o => by simp [t.fz o]⟩
theorem OpAt.new (w : World) (k : Int) (T : TypeId) : OpAt (w.alloc (.cells (opC ⟨k, 0, 0, 0, 0, 0, 0, 0, 0, ⟨#[]⟩⟩) T)) w.heap.size k (fun _ => 0) ⟨#[]⟩ := by
  refine ⟨by simp, by simp, fun j hj => ?_, by simp, fun o => by simp⟩
  match j, hj with
  | 0, _ => simp
  | 1, _ => simp
  | 2, _ => simp
  | 3, _ => simp
  | 4, _ => simp
  | 5, _ => simp
  | 6, _ => simp
  | 7, _ => simp
end

/-- The places of the eight numbers, in a row. -/
structure PRow (w : World) (g q : Nat) : Prop where
  lt : g < w.heap.size
  cell : ∀ j, j < 8 → w.cell? ⟨g, j, none⟩ = some (.pointer (some ⟨q, j + 1, none⟩))
theorem PRow.same {w w' : World} {g q : Nat} (t : PRow w g q) (hs : w.heap.size ≤ w'.heap.size) (e : w'.heap[g]? = w.heap[g]?) : PRow w' g q :=
  ⟨Nat.lt_of_lt_of_le t.lt hs, fun j hj => (World.cell?_of_block (w := w) e).trans (t.cell j hj)⟩
theorem PRow.kept {b : Nat} {w w' : World} {g q : Nat} (t : PRow w g q) (h : Kept b w w') (hb : g ≠ b) : PRow w' g q := t.same h.size (h.block g t.lt hb)
theorem PRow.set {w : World} {g q o : Nat} {v : Value} (t : PRow w g q) (h : g ≠ q) : PRow (w.setCell ⟨q, o, none⟩ v) g q := t.same (by simp [World.setCell]) (Below.heap_setCell _ _ _ _ h)
theorem Rd.set {w : World} {b q o : Nat} {st : St} {v : Value} (t : Rd w b st) (h : b ≠ q) : Rd (w.setCell ⟨q, o, none⟩ v) b st := t.same (by simp [World.setCell]) (Below.heap_setCell _ _ _ _ h)

/-- Only the blocks b and q may have turned. -/
structure Two2 (b q : Nat) (w w' : World) : Prop where
  os : w'.os = w.os
  tape : w'.tape = w.tape
  output : w'.output = w.output
  size : w.heap.size ≤ w'.heap.size
  block : ∀ k, k < w.heap.size → k ≠ b → k ≠ q → w'.heap[k]? = w.heap[k]?
theorem Two2.refl (b q : Nat) (w : World) : Two2 b q w w := ⟨rfl, rfl, rfl, Nat.le_refl _, fun _ _ _ _ => rfl⟩
theorem Two2.kept {b q : Nat} {x y z : World} (h : Two2 b q x y) (k : Kept b y z) : Two2 b q x z :=
  ⟨k.os.trans h.os, k.tape.trans h.tape, k.output.trans h.output, Nat.le_trans h.size k.size, fun i hi hb hq => (k.block i (Nat.lt_of_lt_of_le hi h.size) hb).trans (h.block i hi hb hq)⟩
theorem Two2.set {b q o : Nat} {x y : World} {v : Value} (h : Two2 b q x y) : Two2 b q x (y.setCell ⟨q, o, none⟩ v) :=
  ⟨h.os, h.tape, h.output, by simpa [World.setCell] using h.size, fun i hi hb hq => (Below.heap_setCell _ _ _ _ hq).trans (h.block i hi hb hq)⟩
/-- .. where q is new. -/
theorem Kept.two {b q : Nat} {x y z : World} (h : Kept b x y) (k : Two2 b q y z) (hq : x.heap.size ≤ q) : Kept b x z :=
  ⟨k.os.trans h.os, k.tape.trans h.tape, k.output.trans h.output, Nat.le_trans h.size k.size, fun i hi hb => (k.block i (Nat.lt_of_lt_of_le hi h.size) hb (by omega)).trans (h.block i hi hb)⟩

/-- What the numbers are behind some of the reads. -/
def readM (st : St) (m : Nat → Int) (k : Nat) (j : Nat) : Int := if j < k then (intS (readK j st)).1 else m j
theorem readM_next (st : St) (m : Nat → Int) (k : Nat) : (fun j => if j = k then (intS (readK k st)).1 else readM st m k j) = readM st m (k + 1) := by
  funext j
  unfold readM
  by_cases h : j = k
  · subst h; rw [if_pos rfl, if_pos (Nat.lt_succ_self _)]
  · rw [if_neg h]
    by_cases h2 : j < k
    · rw [if_pos h2, if_pos (by omega)]
    · rw [if_neg h2, if_neg (by omega)]

set_option maxHeartbeats 1000000 in
set_option maxRecDepth 100000 in
theorem fill_any (b g q : Nat) (st : St) (k0 : Int) (m : Nat → Int) (c : ByteArray) (w : World) (t : Rd w b st) (o : OpAt w q k0 m c) (p : PRow w g q) (hgb : g ≠ b) (hgq : g ≠ q) (hqb : q ≠ b) :
    Calls Try.prog 26 #[.pointer (some ⟨b, 0, none⟩), .slice (some ⟨g, 0, none⟩) 8 8] w fun e w' => e = .returned (.tuple #[]) ∧ Rd w' b (readK 8 st) ∧ OpAt w' q k0 (readM st m 8) c ∧ Two2 b q w w' := by
  have hm0 : Hid (readM st m 0 = m) := by show _ = _; funext j; unfold readM; rw [if_neg (by omega)]
  rw [← hm0.out] at o
  replace t := Lib.hid t
  replace o := Lib.hid o
  replace p := Lib.hid p
  go_enter Try.func26, Try.ntmps26
  go_wp2_with fail
  go_loopw [8] (fun i wr => ∃ k : Nat, k ≤ 8 ∧ i = .int .i64 k ∧ Hid (Rd wr b (readK k st)) ∧ Hid (OpAt wr q k0 (readM st m k) c) ∧ Hid (PRow wr g q) ∧ Hid (Two2 b q w wr)) (fun i _ => 8 - (intOf i).toNat)
  case atStart => exact ⟨0, by omega, rfl, t, o, p, Two2.refl b q w⟩
  case round =>
    obtain ⟨k, hk, rfl, tr, or, pr, kr⟩ := hrel
    clear t o p
    by_cases hlt : k < 8
    · have hcell := pr.out.cell k hlt
      have hlt2 : (k : Int) < 8 := by omega
      go_wp2_with fail
      refine (int_all b (readK k st) _ tr.out).mono ?_
      rintro e w1 ⟨rfl, t1, k1⟩
      have o1 := or.out.kept k1 hqb
      have p1 := pr.out.kept k1 hgb
      replace kr := Lib.hid (kr.out.kept k1)
      have cc := o1.cm k hlt
      have ff := o1.fz (k + 1)
      have o2 := o1.put k hlt (intS (readK k st)).1
      rw [readM_next] at o2
      replace o2 := Lib.hid o2
      have t2 := Lib.hid (t1.set (q := q) (o := k + 1) (v := .int .i64 (intS (readK k st)).1) hqb.symm)
      have p2 := Lib.hid (p1.set (o := k + 1) (v := .int .i64 (intS (readK k st)).1) hgq)
      have k2 := Lib.hid (kr.out.set (o := k + 1) (v := .int .i64 (intS (readK k st)).1))
      clear hcell tr or pr kr o1 p1 t1 k1
      generalize (intS (readK k st)).1 = X at *
      go_wp2_with fail
      refine ⟨⟨k + 1, hlt, by go_num, t2, o2, p2, k2⟩, ?_⟩
      simp [intOf]; omega
    · obtain rfl : k = 8 := by omega
      go_wp2_with fail
      go_end0
      exact ⟨rfl, tr.out, or.out, kr.out⟩

theorem results_cell1 {fn : Func} {p : Tmp} {ty : TypeId} (h : fn.results = #[.cell p ty]) (tmps : Array Value) (P : Program) (w : World) :
    (results fn tmps).run P w = ((asAddr (tmps.getD p undef)).run P w).andThen fun a w₁ => (loadVar ty a).run P w₁ := by
  simp only [results, h]
  simp [Sem.run_bind, Result.andThen]

theorem OpAt.congr {w : World} {q : Nat} {k : Int} {m m' : Nat → Int} {c : ByteArray} (t : OpAt w q k m c) (h : ∀ j, j < 8 → m j = m' j) : OpAt w q k m' c := ⟨t.lt, t.c0, fun j hj => (h j hj) ▸ t.cm j hj, t.c9, t.fz⟩
theorem OpAt.two {b q' : Nat} {w w' : World} {q : Nat} {k : Int} {m : Nat → Int} {c : ByteArray} (t : OpAt w q k m c) (h : Two2 b q' w w') (hb : q ≠ b) (hq : q ≠ q') : OpAt w' q k m c := t.same h.size (h.block q t.lt hb hq)
theorem OpAt.set {w : World} {q q' o : Nat} {k : Int} {m : Nat → Int} {c : ByteArray} {v : Value} (t : OpAt w q k m c) (h : q ≠ q') : OpAt (w.setCell ⟨q', o, none⟩ v) q k m c := t.same (by simp [World.setCell]) (Below.heap_setCell _ _ _ _ h)
theorem Kept.new {b q o : Nat} {x y : World} {v : Value} (h : Kept b x y) (hq : x.heap.size ≤ q) : Kept b x (y.setCell ⟨q, o, none⟩ v) :=
  ⟨h.os, h.tape, h.output, by simpa [World.setCell] using h.size, fun i hi hb => (Below.heap_setCell _ _ _ _ (show i ≠ q by omega)).trans (h.block i hi hb)⟩
theorem Kept.below' {b : Nat} {x y z : World} (h : Kept b x y) (k : Below y.heap.size y z) : Kept b x z := h.trans (Kept.ofBelow k)
theorem PRow.new (w : World) (q : Nat) (T : TypeId) : PRow (w.alloc (.cells #[.pointer (some ⟨q, 1, none⟩), .pointer (some ⟨q, 2, none⟩), .pointer (some ⟨q, 3, none⟩), .pointer (some ⟨q, 4, none⟩), .pointer (some ⟨q, 5, none⟩), .pointer (some ⟨q, 6, none⟩), .pointer (some ⟨q, 7, none⟩), .pointer (some ⟨q, 8, none⟩)] T)) w.heap.size q := by
  refine ⟨by simp, fun j hj => ?_⟩
  match j, hj with
  | 0, _ => simp
  | 1, _ => simp
  | 2, _ => simp
  | 3, _ => simp
  | 4, _ => simp
  | 5, _ => simp
  | 6, _ => simp
  | 7, _ => simp

set_option maxHeartbeats 4000000 in
set_option maxRecDepth 100000 in
theorem take_any (b : Nat) (st : St) (w : World) (t : Rd w b st) :
    Calls Try.prog 15 #[.pointer (some ⟨b, 0, none⟩)] w fun e w' => e = .returned (opV (takeA st)) ∧ Rd w' b (takeE st) ∧ Kept b w w' := by
  have hbl := byteS_lt st
  have hwb : IntKind.i64.wrap (byteS st).1 = (byteS st).1 := IntWalk.i64_in _ (by omega)
  go_enter Try.func15, Try.ntmps15
  go_wp2_with fail
  have z := OpAt.new w 0 23
  have t0 := t.below ((Below.refl _ _).alloc (Nat.le_refl w.heap.size) (Obj.cells (opC opZ) 23))
  have k0 : Kept b w (w.alloc (.cells (opC opZ) 23)) := Kept.ofBelow ((Below.refl _ _).alloc (Nat.le_refl _) _)
  have hb := Lib.hid t.lt
  refine (byte_all b st _ t0).mono ?_
  rintro e w1 ⟨rfl, t1, k1⟩
  have hq0 : Hid (w.heap.size < w1.heap.size) := Nat.lt_of_lt_of_le z.lt k1.size
  replace k0 := k0.trans k1
  replace z := z.kept k1 (by have := hb.out; omega)
  have o1 := OpAt.new w1 (byteS st).1 23
  replace z := z.below ((Below.refl _ _).alloc (Nat.le_refl w1.heap.size) (Obj.cells (opC ⟨(byteS st).1, 0, 0, 0, 0, 0, 0, 0, 0, ⟨#[]⟩⟩) 23))
  replace t1 := t1.below ((Below.refl _ _).alloc (Nat.le_refl w1.heap.size) (Obj.cells (opC ⟨(byteS st).1, 0, 0, 0, 0, 0, 0, 0, 0, ⟨#[]⟩⟩) 23))
  replace k0 := k0.below' ((Below.refl _ _).alloc (Nat.le_refl w1.heap.size) (Obj.cells (opC ⟨(byteS st).1, 0, 0, 0, 0, 0, 0, 0, 0, ⟨#[]⟩⟩) 23))
  have hsz : (w1.alloc (Obj.cells (opC ⟨(byteS st).1, 0, 0, 0, 0, 0, 0, 0, 0, ⟨#[]⟩⟩) 23)).heap.size = w1.heap.size + 1 := by simp
  have p1 := PRow.new (w1.alloc (Obj.cells (opC ⟨(byteS st).1, 0, 0, 0, 0, 0, 0, 0, 0, ⟨#[]⟩⟩) 23)) w1.heap.size 60
  rw [hsz] at p1
  have ba : ∀ o, Below (w1.alloc (Obj.cells (opC ⟨(byteS st).1, 0, 0, 0, 0, 0, 0, 0, 0, ⟨#[]⟩⟩) 23)).heap.size (w1.alloc (Obj.cells (opC ⟨(byteS st).1, 0, 0, 0, 0, 0, 0, 0, 0, ⟨#[]⟩⟩) 23)) ((w1.alloc (Obj.cells (opC ⟨(byteS st).1, 0, 0, 0, 0, 0, 0, 0, 0, ⟨#[]⟩⟩) 23)).alloc o) := fun o => (Below.refl _ _).alloc (Nat.le_refl _) _
  replace o1 := o1.below (ba (.cells #[.pointer (some ⟨w1.heap.size, 1, none⟩), .pointer (some ⟨w1.heap.size, 2, none⟩), .pointer (some ⟨w1.heap.size, 3, none⟩), .pointer (some ⟨w1.heap.size, 4, none⟩), .pointer (some ⟨w1.heap.size, 5, none⟩), .pointer (some ⟨w1.heap.size, 6, none⟩), .pointer (some ⟨w1.heap.size, 7, none⟩), .pointer (some ⟨w1.heap.size, 8, none⟩)] 60))
  replace z := z.below (ba (.cells #[.pointer (some ⟨w1.heap.size, 1, none⟩), .pointer (some ⟨w1.heap.size, 2, none⟩), .pointer (some ⟨w1.heap.size, 3, none⟩), .pointer (some ⟨w1.heap.size, 4, none⟩), .pointer (some ⟨w1.heap.size, 5, none⟩), .pointer (some ⟨w1.heap.size, 6, none⟩), .pointer (some ⟨w1.heap.size, 7, none⟩), .pointer (some ⟨w1.heap.size, 8, none⟩)] 60))
  replace t1 := t1.below (ba (.cells #[.pointer (some ⟨w1.heap.size, 1, none⟩), .pointer (some ⟨w1.heap.size, 2, none⟩), .pointer (some ⟨w1.heap.size, 3, none⟩), .pointer (some ⟨w1.heap.size, 4, none⟩), .pointer (some ⟨w1.heap.size, 5, none⟩), .pointer (some ⟨w1.heap.size, 6, none⟩), .pointer (some ⟨w1.heap.size, 7, none⟩), .pointer (some ⟨w1.heap.size, 8, none⟩)] 60))
  replace k0 := k0.below' (ba (.cells #[.pointer (some ⟨w1.heap.size, 1, none⟩), .pointer (some ⟨w1.heap.size, 2, none⟩), .pointer (some ⟨w1.heap.size, 3, none⟩), .pointer (some ⟨w1.heap.size, 4, none⟩), .pointer (some ⟨w1.heap.size, 5, none⟩), .pointer (some ⟨w1.heap.size, 6, none⟩), .pointer (some ⟨w1.heap.size, 7, none⟩), .pointer (some ⟨w1.heap.size, 8, none⟩)] 60))
  have hqb : Hid (w1.heap.size ≠ b) := by have := hb.out; have := hq0.out; show _ ≠ _; omega
  have hzb : Hid (w.heap.size ≠ b) := by have := hb.out; show _ ≠ _; omega
  have hzq : Hid (w.heap.size ≠ w1.heap.size) := by have := hq0.out; show _ ≠ _; omega
  have hle : Hid (w.heap.size ≤ w1.heap.size) := Nat.le_of_lt hq0.out
  clear t t0 k1 hsz ba hbl
  replace t1 := Lib.hid t1
  replace o1 := Lib.hid o1
  replace p1 := Lib.hid p1
  replace z := Lib.hid z
  replace k0 := Lib.hid k0
  go_wp2_with fail
  refine (fill_any b (w1.heap.size + 1) w1.heap.size _ (byteS st).1 (fun _ => 0) ⟨#[]⟩ _ t1.out o1.out p1.out (by have := hb.out; have := hq0.out; omega) (by omega) hqb.out).mono ?_
  rintro e w3 ⟨rfl, t3, o3, k3⟩
  replace z := z.out.two k3 hzb.out hzq.out
  replace k0 := k0.out.two k3 hle.out
  replace o3 := o3.congr (m' := fun j => (intS (readK j (byteS st).2)).1) (fun j hj => by unfold readM; rw [if_pos hj])
  clear t1 o1 p1 k3
  replace z := Lib.hid z
  replace t3 := Lib.hid t3
  replace o3 := Lib.hid o3
  replace k0 := Lib.hid k0
  generalize w1.heap.size = q at *
  generalize hq : w.heap.size = q0 at *
  replace hq := Lib.hid hq
  go_wp2_with fail
  refine (str_all b _ 256 _ (by omega) (by omega) t3.out).mono ?_
  rintro e w4 ⟨rfl, t4, k4⟩
  replace z := z.out.kept k4 hzb.out
  have o4 := o3.out.kept k4 hqb.out
  have c9 := o4.c9
  have f9 := o4.fz 9
  have o5 := Lib.hid (o4.cron (strS (readK 8 (byteS st).2) 256).1)
  have z5 := Lib.hid (z.set (o := 9) (v := .string (strS (readK 8 (byteS st).2) 256).1) hzq.out)
  have t5 := Lib.hid (t4.set (q := q) (o := 9) (v := .string (strS (readK 8 (byteS st).2) 256).1) hqb.out.symm)
  have k5 := Lib.hid ((k0.out.trans k4).new (q := q) (o := 9) (v := .string (strS (readK 8 (byteS st).2) 256).1) (by rw [hq.out]; exact hle.out))
  clear z t3 o3 k0 t4 k4 o4
  go_upto_region 4 with fail
  clear c9 f9
  generalize w4.setCell ⟨q, 9, none⟩ (.string (strS (readK 8 (byteS st).2) 256).1) = w5 at *
  have hO : Hid (takeO st = ⟨(byteS st).1, (intS (readK 0 (byteS st).2)).1, (intS (readK 1 (byteS st).2)).1, (intS (readK 2 (byteS st).2)).1, (intS (readK 3 (byteS st).2)).1, (intS (readK 4 (byteS st).2)).1, (intS (readK 5 (byteS st).2)).1, (intS (readK 6 (byteS st).2)).1, (intS (readK 7 (byteS st).2)).1, (strS (readK 8 (byteS st).2) 256).1⟩) := rfl
  have hT : Hid ((strS (readK 8 (byteS st).2) 256).2 = takeT st) := rfl
  rw [hT.out] at t5
  have cm := Lib.hid (mayBe_any (takeO st) w5 (by have := takeO_cron st; omega))
  have hAE : Hid (okOp (takeO st) = false → takeA st = opZ ∧ takeE st = failS (takeT st) 3) := fun h => ⟨by unfold takeA tookB; rw [h, Bool.and_false]; rfl, by unfold takeE; rw [h]; rfl⟩
  have hAT : Hid (okOp (takeO st) = true → takeE st = takeT st ∧ ((takeT st).e = 0 → takeA st = takeO st) ∧ ((takeT st).e ≠ 0 → takeA st = opZ)) := fun h => ⟨by unfold takeE; rw [h]; rfl, fun h0 => by unfold takeA tookB; rw [h, decide_eq_true h0]; rfl, fun h0 => by unfold takeA tookB; rw [decide_eq_false h0]; rfl⟩
  rw [hO.out] at cm hAE hAT
  have x0 := o5.out.c0
  have x1 : w5.cell? ⟨q, 1, none⟩ = some (.int .i64 (intS (readK 0 (byteS st).2)).1) := o5.out.cm 0 (by omega)
  have x2 : w5.cell? ⟨q, 2, none⟩ = some (.int .i64 (intS (readK 1 (byteS st).2)).1) := o5.out.cm 1 (by omega)
  have x3 : w5.cell? ⟨q, 3, none⟩ = some (.int .i64 (intS (readK 2 (byteS st).2)).1) := o5.out.cm 2 (by omega)
  have x4 : w5.cell? ⟨q, 4, none⟩ = some (.int .i64 (intS (readK 3 (byteS st).2)).1) := o5.out.cm 3 (by omega)
  have x5 : w5.cell? ⟨q, 5, none⟩ = some (.int .i64 (intS (readK 4 (byteS st).2)).1) := o5.out.cm 4 (by omega)
  have x6 : w5.cell? ⟨q, 6, none⟩ = some (.int .i64 (intS (readK 5 (byteS st).2)).1) := o5.out.cm 5 (by omega)
  have x7 : w5.cell? ⟨q, 7, none⟩ = some (.int .i64 (intS (readK 6 (byteS st).2)).1) := o5.out.cm 6 (by omega)
  have x8 : w5.cell? ⟨q, 8, none⟩ = some (.int .i64 (intS (readK 7 (byteS st).2)).1) := o5.out.cm 7 (by omega)
  have x9 := o5.out.c9
  clear hT hO hwb
  generalize hm : (fun j => (intS (readK j (byteS st).2)).1) = m at *
  replace hm := Lib.hid hm
  generalize hv1 : (intS (readK 0 (byteS st).2)).1 = v1 at *
  generalize hv2 : (intS (readK 1 (byteS st).2)).1 = v2 at *
  generalize hv3 : (intS (readK 2 (byteS st).2)).1 = v3 at *
  generalize hv4 : (intS (readK 3 (byteS st).2)).1 = v4 at *
  generalize hv5 : (intS (readK 4 (byteS st).2)).1 = v5 at *
  generalize hv6 : (intS (readK 5 (byteS st).2)).1 = v6 at *
  generalize hv7 : (intS (readK 6 (byteS st).2)).1 = v7 at *
  generalize hv8 : (intS (readK 7 (byteS st).2)).1 = v8 at *
  replace hv1 := Lib.hid hv1
  replace hv2 := Lib.hid hv2
  replace hv3 := Lib.hid hv3
  replace hv4 := Lib.hid hv4
  replace hv5 := Lib.hid hv5
  replace hv6 := Lib.hid hv6
  replace hv7 := Lib.hid hv7
  replace hv8 := Lib.hid hv8
  generalize (strS (readK 8 (byteS st).2) 256).1 = v9 at *
  generalize (byteS st).1 = K at *
  go_wp2_with fail
  refine cm.out.mono ?_
  rintro e w6 ⟨rfl, b6⟩
  have z6 := Lib.hid (z5.out.below b6)
  have t6 := Lib.hid (t5.out.below b6)
  have o6 := Lib.hid (o5.out.below b6)
  have k6 := Lib.hid (k5.out.below' b6)
  have hqn : Hid (w.heap.size ≤ q0) := by show _ ≤ _; rw [hq.out]; exact Nat.le_refl _
  have hbz : Hid (b ≠ q0) := fun e => hzb.out e.symm
  clear cm x0 x1 x2 x3 x4 x5 x6 x7 x8 x9 b6 z5 t5 o5 k5
  cases hok : okOp ⟨K, v1, v2, v3, v4, v5, v6, v7, v8, v9⟩
  · obtain ⟨a1, a2⟩ := hAE.out hok
    replace a1 := Lib.hid a1
    replace a2 := Lib.hid a2
    clear hAE hAT hok
    go_wp2_with fail
    refine (fail_any b (takeT st) 3 _ t6.out).mono ?_
    rintro e w7 ⟨rfl, t7, k7⟩
    have z7 := Lib.hid (z6.out.kept k7 hzb.out)
    replace k6 := Lib.hid (k6.out.trans k7)
    replace t7 := Lib.hid t7
    clear t6 z6 o6 k7
    have hne : ((failS (takeT st) 3).e != 0) = true := by
      unfold failS
      by_cases h : (takeT st).e = 0
      · simp [h]
      · simp [h]
    go_wp2_with fail
    refine (err_any b _ _ t7.out).mono ?_
    rintro e w8 ⟨rfl, rfl⟩
    have y0 := z7.out.c0
    have g0 := z7.out.fz 0
    have y1 : w7.cell? ⟨q0, 1, none⟩ = some (.int .i64 0) := z7.out.cm 0 (by omega)
    have g1 := z7.out.fz 1
    have y2 : w7.cell? ⟨q0, 2, none⟩ = some (.int .i64 0) := z7.out.cm 1 (by omega)
    have g2 := z7.out.fz 2
    have y3 : w7.cell? ⟨q0, 3, none⟩ = some (.int .i64 0) := z7.out.cm 2 (by omega)
    have g3 := z7.out.fz 3
    have y4 : w7.cell? ⟨q0, 4, none⟩ = some (.int .i64 0) := z7.out.cm 3 (by omega)
    have g4 := z7.out.fz 4
    have y5 : w7.cell? ⟨q0, 5, none⟩ = some (.int .i64 0) := z7.out.cm 4 (by omega)
    have g5 := z7.out.fz 5
    have y6 : w7.cell? ⟨q0, 6, none⟩ = some (.int .i64 0) := z7.out.cm 5 (by omega)
    have g6 := z7.out.fz 6
    have y7 : w7.cell? ⟨q0, 7, none⟩ = some (.int .i64 0) := z7.out.cm 6 (by omega)
    have g7 := z7.out.fz 7
    have y8 : w7.cell? ⟨q0, 8, none⟩ = some (.int .i64 0) := z7.out.cm 7 (by omega)
    have g8 := z7.out.fz 8
    have y9 := z7.out.c9
    have g9 := z7.out.fz 9
    go_wp2_with fail
    refine bodyPost_ret (v := .agg #[.int .i64 0, .int .i64 0, .int .i64 0, .int .i64 0, .int .i64 0, .int .i64 0, .int .i64 0, .int .i64 0, .int .i64 0, .string ⟨#[]⟩]) ?_ rfl ?_
    · rw [results_cell1 rfl]
      go_simp
    · exact ⟨by rw [a1.out]; rfl, a2.out ▸ ((((((((((t7.out.set hbz.out).set hbz.out).set hbz.out).set hbz.out).set hbz.out).set hbz.out).set hbz.out).set hbz.out).set hbz.out).set hbz.out), ((((((((((k6.out.new hqn.out).new hqn.out).new hqn.out).new hqn.out).new hqn.out).new hqn.out).new hqn.out).new hqn.out).new hqn.out).new hqn.out)⟩
  · obtain ⟨a1, a2, a3⟩ := hAT.out hok
    replace a1 := Lib.hid a1
    clear hAE hAT hok
    by_cases h0 : (takeT st).e = 0
    · have a4 := Lib.hid (a2 h0)
      have hne : ((takeT st).e != 0) = false := by simp [h0]
      clear a2 a3
      replace h0 := Lib.hid h0
      go_wp2_with fail
      refine (err_any b _ _ t6.out).mono ?_
      rintro e w8 ⟨rfl, rfl⟩
      have y0 := z6.out.c0
      have g0 := z6.out.fz 0
      have y1 : w6.cell? ⟨q0, 1, none⟩ = some (.int .i64 0) := z6.out.cm 0 (by omega)
      have g1 := z6.out.fz 1
      have y2 : w6.cell? ⟨q0, 2, none⟩ = some (.int .i64 0) := z6.out.cm 1 (by omega)
      have g2 := z6.out.fz 2
      have y3 : w6.cell? ⟨q0, 3, none⟩ = some (.int .i64 0) := z6.out.cm 2 (by omega)
      have g3 := z6.out.fz 3
      have y4 : w6.cell? ⟨q0, 4, none⟩ = some (.int .i64 0) := z6.out.cm 3 (by omega)
      have g4 := z6.out.fz 4
      have y5 : w6.cell? ⟨q0, 5, none⟩ = some (.int .i64 0) := z6.out.cm 4 (by omega)
      have g5 := z6.out.fz 5
      have y6 : w6.cell? ⟨q0, 6, none⟩ = some (.int .i64 0) := z6.out.cm 5 (by omega)
      have g6 := z6.out.fz 6
      have y7 : w6.cell? ⟨q0, 7, none⟩ = some (.int .i64 0) := z6.out.cm 6 (by omega)
      have g7 := z6.out.fz 7
      have y8 : w6.cell? ⟨q0, 8, none⟩ = some (.int .i64 0) := z6.out.cm 7 (by omega)
      have g8 := z6.out.fz 8
      have y9 := z6.out.c9
      have g9 := z6.out.fz 9
      have x0 := o6.out.c0
      have x9 := o6.out.c9
      have x1 : w6.cell? ⟨q, 1, none⟩ = some (.int .i64 v1) := (o6.out.cm 0 (by omega)).trans (congrArg (fun z => some (Value.int .i64 z)) (hv1.out ▸ hm.out ▸ rfl))
      have x2 : w6.cell? ⟨q, 2, none⟩ = some (.int .i64 v2) := (o6.out.cm 1 (by omega)).trans (congrArg (fun z => some (Value.int .i64 z)) (hv2.out ▸ hm.out ▸ rfl))
      have x3 : w6.cell? ⟨q, 3, none⟩ = some (.int .i64 v3) := (o6.out.cm 2 (by omega)).trans (congrArg (fun z => some (Value.int .i64 z)) (hv3.out ▸ hm.out ▸ rfl))
      have x4 : w6.cell? ⟨q, 4, none⟩ = some (.int .i64 v4) := (o6.out.cm 3 (by omega)).trans (congrArg (fun z => some (Value.int .i64 z)) (hv4.out ▸ hm.out ▸ rfl))
      have x5 : w6.cell? ⟨q, 5, none⟩ = some (.int .i64 v5) := (o6.out.cm 4 (by omega)).trans (congrArg (fun z => some (Value.int .i64 z)) (hv5.out ▸ hm.out ▸ rfl))
      have x6 : w6.cell? ⟨q, 6, none⟩ = some (.int .i64 v6) := (o6.out.cm 5 (by omega)).trans (congrArg (fun z => some (Value.int .i64 z)) (hv6.out ▸ hm.out ▸ rfl))
      have x7 : w6.cell? ⟨q, 7, none⟩ = some (.int .i64 v7) := (o6.out.cm 6 (by omega)).trans (congrArg (fun z => some (Value.int .i64 z)) (hv7.out ▸ hm.out ▸ rfl))
      have x8 : w6.cell? ⟨q, 8, none⟩ = some (.int .i64 v8) := (o6.out.cm 7 (by omega)).trans (congrArg (fun z => some (Value.int .i64 z)) (hv8.out ▸ hm.out ▸ rfl))
      go_wp2_with fail
      refine bodyPost_ret (v := opV ⟨K, v1, v2, v3, v4, v5, v6, v7, v8, v9⟩) ?_ rfl ?_
      · rw [results_cell1 rfl]
        go_simp
      · exact ⟨by rw [a4.out], a1.out ▸ ((((((((((t6.out.set hbz.out).set hbz.out).set hbz.out).set hbz.out).set hbz.out).set hbz.out).set hbz.out).set hbz.out).set hbz.out).set hbz.out), ((((((((((k6.out.new hqn.out).new hqn.out).new hqn.out).new hqn.out).new hqn.out).new hqn.out).new hqn.out).new hqn.out).new hqn.out).new hqn.out)⟩
    · have a4 := Lib.hid (a3 h0)
      have hne : ((takeT st).e != 0) = true := by simp [h0]
      clear a2 a3
      replace h0 := Lib.hid h0
      go_wp2_with fail
      refine (err_any b _ _ t6.out).mono ?_
      rintro e w8 ⟨rfl, rfl⟩
      have y0 := z6.out.c0
      have g0 := z6.out.fz 0
      have y1 : w6.cell? ⟨q0, 1, none⟩ = some (.int .i64 0) := z6.out.cm 0 (by omega)
      have g1 := z6.out.fz 1
      have y2 : w6.cell? ⟨q0, 2, none⟩ = some (.int .i64 0) := z6.out.cm 1 (by omega)
      have g2 := z6.out.fz 2
      have y3 : w6.cell? ⟨q0, 3, none⟩ = some (.int .i64 0) := z6.out.cm 2 (by omega)
      have g3 := z6.out.fz 3
      have y4 : w6.cell? ⟨q0, 4, none⟩ = some (.int .i64 0) := z6.out.cm 3 (by omega)
      have g4 := z6.out.fz 4
      have y5 : w6.cell? ⟨q0, 5, none⟩ = some (.int .i64 0) := z6.out.cm 4 (by omega)
      have g5 := z6.out.fz 5
      have y6 : w6.cell? ⟨q0, 6, none⟩ = some (.int .i64 0) := z6.out.cm 5 (by omega)
      have g6 := z6.out.fz 6
      have y7 : w6.cell? ⟨q0, 7, none⟩ = some (.int .i64 0) := z6.out.cm 6 (by omega)
      have g7 := z6.out.fz 7
      have y8 : w6.cell? ⟨q0, 8, none⟩ = some (.int .i64 0) := z6.out.cm 7 (by omega)
      have g8 := z6.out.fz 8
      have y9 := z6.out.c9
      have g9 := z6.out.fz 9
      go_wp2_with fail
      refine bodyPost_ret (v := .agg #[.int .i64 0, .int .i64 0, .int .i64 0, .int .i64 0, .int .i64 0, .int .i64 0, .int .i64 0, .int .i64 0, .int .i64 0, .string ⟨#[]⟩]) ?_ rfl ?_
      · rw [results_cell1 rfl]
        go_simp
      · exact ⟨by rw [a4.out]; rfl, a1.out ▸ ((((((((((t6.out.set hbz.out).set hbz.out).set hbz.out).set hbz.out).set hbz.out).set hbz.out).set hbz.out).set hbz.out).set hbz.out).set hbz.out), ((((((((((k6.out.new hqn.out).new hqn.out).new hqn.out).new hqn.out).new hqn.out).new hqn.out).new hqn.out).new hqn.out).new hqn.out).new hqn.out)⟩
end Go.Proofs.Ytaemoojhmknicaa
