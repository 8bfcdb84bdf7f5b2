/-
  A codec.Reader in memory ('Rd'), and its small methods: Err, Fail, Left; Read makes one. Condition: at most 100000 bytes.
-/
import Derived.Test.YtnagidgffkffhaaNumber
import Derived.Test.YtnagidgffkffhaaShelf
import Derived.Laws.LoneSync
import Derived.Laws.NewBlocks
namespace Go.Proofs.Ytnagidgffkffhaa
open Go.RowKit Cod

structure Kept (b : Nat) (w w' : World) : Prop where
  os : w'.os = w.os
  tape : w'.tape = w.tape
  output : w'.output = w.output
  size : w.heap.size ≤ w'.heap.size
  block : ∀ k, k < w.heap.size → k ≠ b → w'.heap[k]? = w.heap[k]?

theorem Kept.refl (b : Nat) (w : World) : Kept b w w := ⟨rfl, rfl, rfl, Nat.le_refl _, fun _ _ _ => rfl⟩
theorem Kept.trans {b : Nat} {x y z : World} (h : Kept b x y) (k : Kept b y z) : Kept b x z :=
  ⟨k.os.trans h.os, k.tape.trans h.tape, k.output.trans h.output, Nat.le_trans h.size k.size, fun i hi hb => (k.block i (Nat.lt_of_lt_of_le hi h.size) hb).trans (h.block i hi hb)⟩
theorem Kept.drew {b : Nat} {x w : World} (h : Kept b x w) : Kept b x w.drew := ⟨h.os, h.tape, h.output, h.size, h.block⟩
theorem Kept.setCell {b : Nat} {x w : World} (h : Kept b x w) (o : Nat) (u : Value) : Kept b x (w.setCell ⟨b, o, none⟩ u) :=
  h.trans ⟨rfl, rfl, rfl, by simp [World.setCell], fun k _ hb => Below.heap_setCell _ _ _ _ hb⟩
theorem Kept.below {b B : Nat} {w w' : World} (h : Kept b w w') (hb : B ≤ b) (hB : B ≤ w.heap.size) : Below B w w' :=
  ⟨h.os, h.tape, h.output, h.size, fun k hk => h.block k (by omega) (by omega)⟩
theorem Kept.ofBelow {b : Nat} {w w' : World} (h : Below w.heap.size w w') : Kept b w w' := ⟨h.os, h.tape, h.output, h.size, fun k hk _ => h.block k hk⟩

/-- What is left to be read, and the first error. -/
structure St where
  rest : ByteArray
  e : Int

structure Rd (w : World) (b : Nat) (st : St) : Prop where
  lt : b < w.heap.size
  c0 : ∃ r, w.cell? ⟨b, 0, none⟩ = some (.string r) ∧ (st.e = 0 → r = st.rest)
  c1 : w.cell? ⟨b, 1, none⟩ = some (.int .i64 st.e)
  fz : ∀ o, w.frozen? ⟨b, o, none⟩ = false
  sz : st.e = 0 → st.rest.size ≤ 100000

theorem Rd.same {w w' : World} {b : Nat} {st : St} (t : Rd w b st) (hs : w.heap.size ≤ w'.heap.size) (e : w'.heap[b]? = w.heap[b]?) : Rd w' b st :=
  ⟨Nat.lt_of_lt_of_le t.lt hs, t.c0.imp fun _ h => ⟨(World.cell?_of_block (w := w) e).trans h.1, h.2⟩, (World.cell?_of_block (w := w) e).trans t.c1,
    fun o => (World.frozen?_of_block (w := w) e).trans (t.fz o), t.sz⟩
theorem Rd.below {w w' : World} {b : Nat} {st : St} (t : Rd w b st) (k : Below w.heap.size w w') : Rd w' b st := t.same k.size (k.block b t.lt)
theorem Rd.kept {w w' : World} {b b' : Nat} {st : St} (t : Rd w b st) (k : Kept b' w w') (hb : b ≠ b') : Rd w' b st := t.same k.size (k.block b t.lt hb)
theorem Rd.drew {w : World} {b : Nat} {st : St} (t : Rd w b st) : Rd w.drew b st := t.same (Nat.le_refl _) rfl
theorem off_ne {b i j : Nat} (h : i ≠ j) : (⟨b, i, none⟩ : Addr) ≠ ⟨b, j, none⟩ := fun e => h (congrArg Addr.off e)

theorem Rd.setErr {w : World} {b : Nat} {st : St} (t : Rd w b st) (x : Int) (h0 : st.e = 0) : Rd (w.setCell ⟨b, 1, none⟩ (.int .i64 x)) b ⟨st.rest, x⟩ :=
  ⟨by simpa [World.setCell] using t.lt, t.c0.imp fun _ h => ⟨(World.cell?_setCell_other _ _ _ _ (off_ne (by omega))).trans h.1, fun _ => h.2 h0⟩, World.cell?_setCell_same _ _ _ t.c1,
    fun o => by simp [t.fz o], fun _ => t.sz h0⟩
theorem Rd.setRest {w : World} {b : Nat} {st : St} (t : Rd w b st) (r : ByteArray) (h : r.size ≤ 100000) : Rd (w.setCell ⟨b, 0, none⟩ (.string r)) b ⟨r, st.e⟩ := by
  obtain ⟨r0, hr0, -⟩ := t.c0
  exact ⟨by simpa [World.setCell] using t.lt, ⟨r, World.cell?_setCell_same _ _ _ hr0, fun _ => rfl⟩, (World.cell?_setCell_other _ _ _ _ (off_ne (by omega))).trans t.c1,
    fun o => by simp [t.fz o], fun _ => h⟩
theorem Rd.cell {w : World} {b : Nat} {st : St} (t : Rd w b st) (h0 : st.e = 0) : w.cell? ⟨b, 0, none⟩ = some (.string st.rest) := by
  obtain ⟨r, h, he⟩ := t.c0
  rw [he h0] at h; exact h

/-- strings.Clone. -/
theorem clone_any (s : ByteArray) (w : World) (hs : s.size ≤ 100000) :
    Calls Try.prog 55 #[.string s] w fun e w' => e = .returned (.string s) ∧ Below w.heap.size w w' := by
  go_enter Try.func55, Try.ntmps55
  go_wp2_with fail
  refine (Try.stringslite_Clone s _ (by omega)).mono ?_
  rintro e w1 ⟨rfl, hb⟩
  replace hb := Lib.hid hb
  go_wp2_with fail
  go_ret
  exact ⟨rfl, hb.out⟩

theorem rd_new (w : World) (s : ByteArray) (hs : s.size ≤ 100000) : Rd (w.alloc (.cells #[.string s, .int .i64 0] 89)) w.heap.size ⟨s, 0⟩ :=
  ⟨by simp, ⟨s, by simp, fun _ => rfl⟩, by simp, fun o => by simp, fun _ => hs⟩

theorem read_any (s : ByteArray) (w : World) (hs : s.size ≤ 100000) :
    Calls Try.prog 35 #[.string s] w fun e w' => ∃ b, e = .returned (.pointer (some ⟨b, 0, none⟩)) ∧ w.heap.size ≤ b ∧ Rd w' b ⟨s, 0⟩ ∧ Below w.heap.size w w' := by
  go_enter Try.func35, Try.ntmps35
  go_wp2_with fail
  refine (clone_any s _ hs).mono ?_
  rintro e w1 ⟨rfl, b1⟩
  replace b1 := Lib.hid b1
  go_wp2_with fail
  go_ret
  exact ⟨_, rfl, b1.out.size, rd_new w1 s hs, b1.out.alloc b1.out.size _⟩

/-- '(*sync/atomic.Int64).Load'. -/
theorem int64Load (a : Addr) (d : Int) (w : World) (h0 : w.cell? a = some (.int .i64 d)) :
    Calls Try.prog 61 #[.pointer (some a)] w fun e w' => e = .returned (.int .i64 d) ∧ w = w' := by
  have hl := run_call_load (P := Try.prog) Try.func79 (by kernel_rfl) (by kernel_rfl) (by kernel_rfl) .i64 (by kernel_rfl) h0
  go_enter Try.func61, Try.ntmps61
  go_wp2
  go_ret
  exact ⟨rfl, rfl⟩

/-- '(*sync/atomic.Int64).CompareAndSwap(0, x)' at nought. -/
theorem casHit (a : Addr) (x : Int) (w : World) (h0 : w.cell? a = some (.int .i64 0)) (hz : w.frozen? a = false) :
    Calls Try.prog 75 #[.pointer (some a), .int .i64 0, .int .i64 x] w fun e w' => e = .returned (.bool true) ∧ w' = w.setCell a (.int .i64 x) := by
  have hl := run_call_cas_hit (P := Try.prog) Try.func82 (by kernel_rfl) (by kernel_rfl) (by kernel_rfl) .i64 (by kernel_rfl) (y := x) h0 hz
  go_enter Try.func75, Try.ntmps75
  go_wp2
  go_ret
  exact ⟨rfl, rfl⟩
/-- .. and at anything else. -/
theorem casMiss (a : Addr) (x d : Int) (w : World) (hd : d ≠ 0) (h0 : w.cell? a = some (.int .i64 d)) (hz : w.frozen? a = false) :
    Calls Try.prog 75 #[.pointer (some a), .int .i64 0, .int .i64 x] w fun e w' => e = .returned (.bool false) ∧ w = w' := by
  have hl := run_call_cas_miss (P := Try.prog) Try.func82 (by kernel_rfl) (by kernel_rfl) (by kernel_rfl) .i64 (by kernel_rfl) (y := x) h0 hz hd
  go_enter Try.func75, Try.ntmps75
  go_wp2
  go_ret
  exact ⟨rfl, rfl⟩

theorem err_any (b : Nat) (st : St) (w : World) (t : Rd w b st) :
    Calls Try.prog 38 #[.pointer (some ⟨b, 0, none⟩)] w fun e w' => e = .returned (.int .i64 st.e) ∧ w = w' := by
  have hc := t.c1
  go_enter Try.func38, Try.ntmps38
  go_wp2_with (go_at_call 61; refine (int64Load ⟨b, 1, none⟩ st.e _ hc).mono ?_; rintro e w' ⟨rfl, rfl⟩)
  go_ret
  exact ⟨rfl, rfl⟩
theorem err_nil (w : World) : Calls Try.prog 38 #[.pointer none] w fun e w' => e = .returned (.int .i64 12) ∧ w = w' := by
  go_enter Try.func38, Try.ntmps38
  go_wp2
  go_ret
  exact ⟨rfl, rfl⟩

/-- The first error stays. -/
def failS (st : St) (x : Int) : St := ⟨st.rest, if st.e = 0 then x else st.e⟩

theorem fail_any (b : Nat) (st : St) (x : Int) (w : World) (t : Rd w b st) :
    Calls Try.prog 57 #[.pointer (some ⟨b, 0, none⟩), .int .i64 x] w fun e w' => e = .returned (.tuple #[]) ∧ Rd w' b (failS st x) ∧ Kept b w w' := by
  have hz := t.fz 1
  by_cases h0 : st.e = 0
  · have hc : w.cell? ⟨b, 1, none⟩ = some (.int .i64 0) := by rw [← h0]; exact t.c1
    have t1 := Lib.hid (t.setErr x h0)
    have hf : Hid (failS st x = ⟨st.rest, x⟩) := by show failS st x = _; rw [failS, if_pos h0]
    clear h0 t
    go_enter Try.func57, Try.ntmps57
    go_wp2_with (go_at_call 75; refine (casHit ⟨b, 1, none⟩ x _ hc hz).mono ?_; rintro e w' ⟨rfl, rfl⟩)
    go_end0
    exact ⟨rfl, hf.out ▸ t1.out, (Kept.refl b w).setCell _ _⟩
  · have hc := t.c1
    have hf : Hid (failS st x = st) := by show failS st x = _; rw [failS, if_neg h0]
    replace h0 := Lib.hid h0
    go_enter Try.func57, Try.ntmps57
    go_wp2_with (go_at_call 75; refine (casMiss ⟨b, 1, none⟩ x st.e _ h0.out hc hz).mono ?_; rintro e w' ⟨rfl, rfl⟩)
    go_end0
    exact ⟨rfl, hf.out.symm ▸ t, Kept.refl b w⟩

/-- How many bytes are left. -/
def leftS (st : St) : Int := if st.e = 0 then (st.rest.size : Int) else 0

theorem left_any (b : Nat) (st : St) (w : World) (t : Rd w b st) :
    Calls Try.prog 54 #[.pointer (some ⟨b, 0, none⟩)] w fun e w' => e = .returned (.int .i64 (leftS st)) ∧ w = w' := by
  by_cases h0 : st.e = 0
  · have hc := t.cell h0
    have hsz := t.sz h0
    have hf : Hid (leftS st = st.rest.size) := by show leftS st = _; rw [leftS, if_pos h0]
    have e0 : (st.e != 0) = false := by simp [h0]
    replace h0 := Lib.hid h0
    go_enter Try.func54, Try.ntmps54
    go_wp2_with (go_at_call 38; refine (err_any b st _ t).mono ?_; rintro e w' ⟨rfl, rfl⟩)
    go_ret
    exact ⟨by rw [hf.out]; rfl, rfl⟩
  · have hf : Hid (leftS st = 0) := by show leftS st = _; rw [leftS, if_neg h0]
    have e0 : (st.e != 0) = true := by simp [h0]
    replace h0 := Lib.hid h0
    go_enter Try.func54, Try.ntmps54
    go_wp2_with (go_at_call 38; refine (err_any b st _ t).mono ?_; rintro e w' ⟨rfl, rfl⟩)
    go_ret
    exact ⟨by rw [hf.out]; rfl, rfl⟩
theorem left_nil (w : World) : Calls Try.prog 54 #[.pointer none] w fun e w' => e = .returned (.int .i64 0) ∧ w = w' := by
  go_enter Try.func54, Try.ntmps54
  go_wp2_with (go_at_call 38; refine (err_nil _).mono ?_; rintro e w' ⟨rfl, rfl⟩)
  go_ret
  exact ⟨rfl, rfl⟩
end Go.Proofs.Ytnagidgffkffhaa
