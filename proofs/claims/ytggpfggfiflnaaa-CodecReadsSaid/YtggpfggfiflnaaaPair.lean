/-
  A codec.Reader and the document's own beside each other, with the variable that holds what is read next: what each call leaves of the others.
-/
import Derived.Test.YtggpfggfiflnaaaRefReads
import Derived.Test.YtggpfggfiflnaaaOps
namespace Go.Proofs.Ytggpfggfiflnaaa
open Go.RowKit Cod

theorem Rd.drewN {w : World} {b : Nat} {st : St} (t : Rd w b st) (n : Nat) : Rd (w.drewN n) b st := t.same (Nat.le_refl _) rfl
theorem RfS.same {w w' : World} {b : Nat} {S : ByteArray} {st : St} (t : RfS w b S st) (hs : w.heap.size ≤ w'.heap.size) (h : w'.heap[b]? = w.heap[b]?) : RfS w' b S st :=
  ⟨t.rf.imp fun _ x => ⟨x.1.same hs h, x.2⟩, t.sz⟩
theorem RfS.drewN {w : World} {b : Nat} {S : ByteArray} {st : St} (t : RfS w b S st) (n : Nat) : RfS (w.drewN n) b S st := t.same (Nat.le_refl _) rfl
theorem RfS.lt {w : World} {b : Nat} {S : ByteArray} {st : St} (t : RfS w b S st) : b < w.heap.size := by obtain ⟨a, h, _⟩ := t.rf; exact h.lt
theorem RfS.cell {w : World} {b : Nat} {S : ByteArray} {st : St} (t : RfS w b S st) : w.cell? ⟨b, 2, none⟩ = some (.int .i64 st.e) := by obtain ⟨a, h, _⟩ := t.rf; exact h.c2
theorem RfS.fz {w : World} {b : Nat} {S : ByteArray} {st : St} (t : RfS w b S st) : w.frozen? ⟨b, 2, none⟩ = false := by obtain ⟨a, h, _⟩ := t.rf; exact h.fz 2
theorem RfS.fail {w : World} {b : Nat} {S : ByteArray} {st : St} (t : RfS w b S st) (x : Int) (h0 : st.e = 0) : RfS (w.setCell ⟨b, 2, none⟩ (.int .i64 x)) b S ⟨st.rest, x⟩ := by
  obtain ⟨⟨a, h, ha, hr⟩, hs⟩ := t
  exact ⟨⟨a, h.setErr x, ha, fun _ => hr h0⟩, hs⟩

/-- The reader, the document's, and the variable. -/
structure Tri (w : World) (p f : Nat) (S : ByteArray) (st st' : St) (q : Nat) (kk mm : Int) (W : World) : Prop where
  rd : Rd W p st
  rf : RfS W f S st'
  bel : Below w.heap.size w W
  ne : f ≠ p
  hp : w.heap.size ≤ p
  hf : w.heap.size ≤ f
  qp : q ≠ p
  qf : q ≠ f
  lt : q < W.heap.size
  c0 : W.cell? ⟨q, 0, none⟩ = some (.int .i64 kk)
  c1 : W.cell? ⟨q, 1, none⟩ = some (.int .i64 mm)

/-- The two readers alone. -/
structure Two (w : World) (p f : Nat) (S : ByteArray) (st : St) (W : World) : Prop where
  rd : Rd W p st
  rf : RfS W f S st
  bel : Below w.heap.size w W
  ne : f ≠ p
  hp : w.heap.size ≤ p
  hf : w.heap.size ≤ f

section
variable {w W W' : World} {p f : Nat} {S : ByteArray} {st st' st1 : St} {q : Nat} {kk mm : Int}
theorem Tri.start (o : Two w p f S st W) (kk mm : Int) : Tri w p f S st st W.heap.size kk mm (W.alloc (.cells #[.int .i64 kk, .int .i64 mm] 35)) := by
  have hb : Below W.heap.size W (W.alloc (.cells #[.int .i64 kk, .int .i64 mm] 35)) := (Below.refl _ _).alloc (Nat.le_refl _) _
  exact ⟨o.rd.below hb, o.rf.same hb.size (hb.block f o.rf.lt), o.bel.alloc o.bel.size _, o.ne, o.hp, o.hf, by have := o.rd.lt; omega, by have := o.rf.lt; omega, by simp, by simp, by simp⟩
theorem Tri.stepR (o : Tri w p f S st st' q kk mm W) (t : Rd W' p st1) (k : Kept p W W') : Tri w p f S st1 st' q kk mm W' :=
  ⟨t, o.rf.same k.size (k.block f o.rf.lt o.ne), o.bel.trans (k.below o.hp o.bel.size), o.ne, o.hp, o.hf, o.qp, o.qf, Nat.lt_of_lt_of_le o.lt k.size, (World.cell?_of_block (k.block q o.lt o.qp)).trans o.c0, (World.cell?_of_block (k.block q o.lt o.qp)).trans o.c1⟩
theorem Tri.stepF (o : Tri w p f S st st' q kk mm W) (t : RfS W' f S st1) (k : Kept f W W') : Tri w p f S st st1 q kk mm W' :=
  ⟨o.rd.same k.size (k.block p o.rd.lt (fun h => o.ne h.symm)), t, o.bel.trans (k.below o.hf o.bel.size), o.ne, o.hp, o.hf, o.qp, o.qf, Nat.lt_of_lt_of_le o.lt k.size, (World.cell?_of_block (k.block q o.lt o.qf)).trans o.c0, (World.cell?_of_block (k.block q o.lt o.qf)).trans o.c1⟩
theorem Tri.drewN (o : Tri w p f S st st' q kk mm W) (n : Nat) : Tri w p f S st st' q kk mm (W.drewN n) := o.stepF (o.rf.drewN n) ((Kept.refl f W).drewN n)
theorem Tri.drew (o : Tri w p f S st st' q kk mm W) : Tri w p f S st st' q kk mm W.drew := o.drewN 1
theorem Tri.two (o : Tri w p f S st st q kk mm W) : Two w p f S st W := ⟨o.rd, o.rf, o.bel, o.ne, o.hp, o.hf⟩

theorem err_q (t : Rd W p st) (n : Nat) : Calls Try.prog 26 #[.pointer (some ⟨p, 0, none⟩)] (W.drewN n) fun e w' => e = .returned (.int .i64 st.e) ∧ ∃ m, w' = W.drewN m :=
  (err_any p st _ (t.drewN n)).mono fun _ _ ⟨he, hw⟩ => ⟨he, n, hw.symm⟩
theorem left_q (t : Rd W p st) (n : Nat) : Calls Try.prog 27 #[.pointer (some ⟨p, 0, none⟩)] (W.drewN n) fun e w' => e = .returned (.int .i64 (leftS st)) ∧ ∃ m, w' = W.drewN m :=
  (left_any p st _ (t.drewN n)).mono fun _ _ ⟨he, hw⟩ => ⟨he, n, hw.symm⟩
end

/-- The document's Left only draws. -/
theorem refLeft_q (b : Nat) (S : ByteArray) (st : St) (w : World) (t : RfS w b S st) :
    Calls Try.prog 28 #[.pointer (some ⟨b, 0, none⟩)] w fun e w' => e = .returned (.int .i64 (leftS st)) ∧ ∃ m, w' = w.drewN m := by
  obtain ⟨⟨a, rf, ha, hr⟩, hs⟩ := t
  have c0 := rf.c0
  have c1 := rf.c1
  have c2 := rf.c2
  by_cases h0 : st.e = 0
  · have hl : leftS st = (S.size : Int) - a := by rw [leftS, if_pos h0, hr h0, cutS_size]; omega
    rw [h0] at c2
    rw [hl]
    replace h0 := Lib.hid h0
    replace rf := Lib.hid rf
    replace hr := Lib.hid hr
    replace hl := Lib.hid hl
    go_enter Try.func28, Try.ntmps28
    go_wp2_with fail
    go_quiet (fail)
    go_wp2_with fail
    go_ret
    exact ⟨rfl, nq, rfl⟩
  · have hl : leftS st = 0 := by rw [leftS, if_neg h0]
    have ex : (st.e != 0) = true := by simpa using h0
    rw [hl]
    replace h0 := Lib.hid h0
    replace rf := Lib.hid rf
    replace hr := Lib.hid hr
    replace hl := Lib.hid hl
    go_enter Try.func28, Try.ntmps28
    go_wp2_with fail
    go_ret
    exact ⟨rfl, 0, rfl⟩
theorem refLeft_q' {W : World} {f : Nat} {S : ByteArray} {st : St} (t : RfS W f S st) (n : Nat) : Calls Try.prog 28 #[.pointer (some ⟨f, 0, none⟩)] (W.drewN n) fun e w' => e = .returned (.int .i64 (leftS st)) ∧ ∃ m, w' = W.drewN m :=
  Calls.quiet_of (refLeft_q f S st _ (t.drewN n))
end Go.Proofs.Ytggpfggfiflnaaa
