/-
  The document's own Reader in memory ('Rf'), and its small methods: fail, Left. Condition: at most 100000 bytes.
-/
import Derived.Test.YtnagidgffkffhaaBack
import Derived.Deep.QuietTactic
import Derived.BigQuiet
namespace Go.Proofs.Ytnagidgffkffhaa
open Go.RowKit Cod

structure Rf (w : World) (b : Nat) (S : ByteArray) (a : Nat) (e : Int) : Prop where
  lt : b < w.heap.size
  c0 : w.cell? ⟨b, 0, none⟩ = some (.string S)
  c1 : w.cell? ⟨b, 1, none⟩ = some (.int .i64 a)
  c2 : w.cell? ⟨b, 2, none⟩ = some (.int .i64 e)
  fz : ∀ o, w.frozen? ⟨b, o, none⟩ = false

theorem Rf.same {w w' : World} {b : Nat} {S : ByteArray} {a : Nat} {e : Int} (t : Rf w b S a e) (hs : w.heap.size ≤ w'.heap.size) (h : w'.heap[b]? = w.heap[b]?) : Rf w' b S a e :=
  ⟨Nat.lt_of_lt_of_le t.lt hs, (World.cell?_of_block (w := w) h).trans t.c0, (World.cell?_of_block (w := w) h).trans t.c1, (World.cell?_of_block (w := w) h).trans t.c2, fun o => (World.frozen?_of_block (w := w) h).trans (t.fz o)⟩
theorem Rf.below {w w' : World} {b : Nat} {S : ByteArray} {a : Nat} {e : Int} (t : Rf w b S a e) (k : Below w.heap.size w w') : Rf w' b S a e := t.same k.size (k.block b t.lt)
theorem Rf.kept {w w' : World} {b b' : Nat} {S : ByteArray} {a : Nat} {e : Int} (t : Rf w b S a e) (k : Kept b' w w') (hb : b ≠ b') : Rf w' b S a e := t.same k.size (k.block b t.lt hb)
theorem Rf.drew {w : World} {b : Nat} {S : ByteArray} {a : Nat} {e : Int} (t : Rf w b S a e) : Rf w.drew b S a e := t.same (Nat.le_refl _) rfl
theorem Rf.drewN {w : World} {b : Nat} {S : ByteArray} {a : Nat} {e : Int} (t : Rf w b S a e) (n : Nat) : Rf (w.drewN n) b S a e := t.same (Nat.le_refl _) rfl
theorem Kept.drewN {b : Nat} {x w : World} (h : Kept b x w) (n : Nat) : Kept b x (w.drewN n) := ⟨h.os, h.tape, h.output, h.size, h.block⟩
theorem Rf.setErr {w : World} {b : Nat} {S : ByteArray} {a : Nat} {e : Int} (t : Rf w b S a e) (x : Int) : Rf (w.setCell ⟨b, 2, none⟩ (.int .i64 x)) b S a x :=
  ⟨by simpa [World.setCell] using t.lt, (World.cell?_setCell_other _ _ _ _ (off_ne (by omega))).trans t.c0, (World.cell?_setCell_other _ _ _ _ (off_ne (by omega))).trans t.c1, World.cell?_setCell_same _ _ _ t.c2, fun o => by simp [t.fz o]⟩
theorem Rf.setAt {w : World} {b : Nat} {S : ByteArray} {a : Nat} {e : Int} (t : Rf w b S a e) (x : Nat) : Rf (w.setCell ⟨b, 1, none⟩ (.int .i64 (x : Int))) b S x e :=
  ⟨by simpa [World.setCell] using t.lt, (World.cell?_setCell_other _ _ _ _ (off_ne (by omega))).trans t.c0, World.cell?_setCell_same _ _ _ t.c1, (World.cell?_setCell_other _ _ _ _ (off_ne (by omega))).trans t.c2, fun o => by simp [t.fz o]⟩

/-- The document's reader says the same as a reader of this state. -/
structure RfS (w : World) (b : Nat) (S : ByteArray) (st : St) : Prop where
  rf : ∃ a, Rf w b S a st.e ∧ a ≤ S.size ∧ (st.e = 0 → st.rest = cutS S a)
  sz : S.size ≤ 100000

theorem refFail_hit (b : Nat) (S : ByteArray) (a : Nat) (x : Int) (w : World) (t : Rf w b S a 0) :
    Calls Try.prog 78 #[.pointer (some ⟨b, 0, none⟩), .int .i64 x] w fun e w' => e = .returned (.tuple #[]) ∧ Rf w' b S a x ∧ Kept b w w' := by
  have hc := t.c2
  have hz := t.fz 2
  replace t := Lib.hid t
  go_enter Try.func78, Try.ntmps78
  go_wp2_with fail
  go_end0
  exact ⟨rfl, t.out.setErr x, (Kept.refl b w).setCell _ _⟩

/-- What the loop keeps: the bytes so far. -/
def AtL (l : List Nat) (k acc : Nat) : Prop := acc < 2 ^ (7 * k) ∧ num 0 0 l = num k acc (l.drop k)
theorem AtL.bad {l : List Nat} {k acc b : Nat} (h : AtL l k acc) (hd : l.drop k = b :: l.drop (k + 1)) (hb : (0 < k ∧ b = 0) ∨ (k = 9 ∧ 1 < b)) : num 0 0 l = (0, 0, 3) := by
  rw [h.2, hd, num_bad hb]
theorem AtL.last {l : List Nat} {k acc acc' b : Nat} (h : AtL l k acc) (hd : l.drop k = b :: l.drop (k + 1)) (hb : ¬ ((0 < k ∧ b = 0) ∨ (k = 9 ∧ 1 < b))) (hl : b < 128) (e : acc' = acc + b % 128 * 2 ^ (7 * k)) : num 0 0 l = (acc', k + 1, 0) := by
  rw [h.2, hd, num_last hb hl, e]
theorem AtL.more {l : List Nat} {k acc acc' b : Nat} (h : AtL l k acc) (hd : l.drop k = b :: l.drop (k + 1)) (hb : ¬ ((0 < k ∧ b = 0) ∨ (k = 9 ∧ 1 < b))) (hl : ¬ b < 128) (e : acc' = acc + b % 128 * 2 ^ (7 * k)) : AtL l (k + 1) acc' :=
  ⟨by rw [e]; exact acc_next h.1, by rw [h.2, hd, num_more hb hl, e]⟩
theorem AtL.torn {l : List Nat} {k acc : Nat} (h : AtL l k acc) (hd : l.length ≤ k) : num 0 0 l = (0, 0, 4) := by
  rw [h.2, List.drop_of_length_le hd]; rfl

theorem add_next (acc b k : Nat) (h9 : k ≤ 9) (ha : acc < 2 ^ (7 * k)) (hb : b < 256) (hk : k = 9 → b ≤ 1) :
    ∃ acc' : Nat, IntKind.u64.wrap ((acc : Int) + IntKind.u64.wrap ((b : Int) % 128 * 2 ^ (7 * k))) = (acc' : Int) ∧ acc' < 18446744073709551616 ∧ Hid (acc' = acc + b % 128 * 2 ^ (7 * k)) := by
  obtain ⟨acc', h1, h2, h3⟩ := or_next acc b k h9 ha hb hk
  refine ⟨acc', ?_, h2, h3⟩
  have e : ((b : Int) % 128 * 2 ^ (7 * k)) = ((b % 128 * 2 ^ (7 * k) : Nat) : Int) := by
    rw [Int.natCast_mul, Int.natCast_pow]; rfl
  have h3 : acc' = acc + b % 128 * 2 ^ (7 * k) := h3.out
  rw [e]
  generalize b % 128 * 2 ^ (7 * k) = x at *
  rw [IntWalk.u64_in (x : Int) (by omega), IntWalk.u64_in _ (by omega)]
  omega

/-- What is answered, and where the reader is then. -/
def UintAns (w : World) (b : Nat) (S : ByteArray) (a : Nat) (t : Nat × Nat × Nat) (e : Ending) (w' : World) : Prop :=
  e = .returned (.int .u64 t.1) ∧ Rf w' b S (a + t.2.1) t.2.2 ∧ Kept b w w'

set_option maxRecDepth 100000 in
set_option maxHeartbeats 1600000 in
theorem refUint_run (b : Nat) (S : ByteArray) (a : Nat) (w : World) (t : Rf w b S a 0) (ha : a ≤ S.size) (hs : S.size ≤ 100000) :
    Calls Try.prog 77 #[.pointer (some ⟨b, 0, none⟩)] w fun e w' => UintAns w b S a (num 0 0 ((bytesOf S).drop a)) e w' := by
  replace t := Lib.hid t
  have hlen : Hid (((bytesOf S).drop a).length = S.size - a) := by show _ = _; rw [List.length_drop, bytesOf_len]
  go_enter Try.func77, Try.ntmps77
  go_wp2_with fail
  go_loopw [3, 4] (fun n i wr => ∃ k acc : Nat, a + k ≤ S.size ∧ k ≤ 9 ∧ i = .int .i64 k ∧ n = .int .u64 acc ∧ Hid (AtL ((bytesOf S).drop a) k acc) ∧ Hid (Rf wr b S a 0) ∧ Hid (Kept b w wr)) (fun _ i _ => S.size - (intOf i).toNat)
  case atStart => exact ⟨0, 0, by omega, by omega, rfl, rfl, ⟨by show 0 < 1; omega, rfl⟩, t, Kept.refl b w⟩
  case round =>
    obtain ⟨k, acc, hk, h9, rfl, rfl, hat, tr, kr⟩ := hrel
    clear t
    have c0 := tr.out.c0
    have c1 := tr.out.c1
    have c2 := tr.out.c2
    by_cases hlt : a + k < S.size
    · have hge : ¬ (S.size : Int) ≤ (a : Int) + k := by omega
      have hlt2 : (a : Int) + k < S.size := by omega
      go_wp2_with fail
      go_quiet (fail)
      have tr1 := Lib.hid (tr.out.drewN nq)
      have kr1 := Lib.hid (kr.out.drewN nq)
      clear c0 c1 c2 tr kr
      generalize wr.drewN nq = w1 at *
      have c0 := tr1.out.c0
      have c1 := tr1.out.c1
      have c2 := tr1.out.c2
      go_wp2_with fail
      have hw1 : IntKind.i64.wrap ((a : Int) + k) = (a : Int) + k := IntWalk.i64_in _ (by omega)
      have hw2 : (0 : Int) ≤ (a : Int) + k := by omega
      have hw3 : ((a : Int) + k).toNat = a + k := by omega
      go_quiet (fail)
      have hb := UInt8.toNat_lt (S[a + k]'hlt)
      have hd : Hid (((bytesOf S).drop a).drop k = (S[a + k]'hlt).toNat :: ((bytesOf S).drop a).drop (k + 1)) := by
        show _ = _
        rw [List.drop_drop, List.drop_drop, bytesOf_drop S (a + k) hlt]; rfl
      generalize (S[a + k]'hlt) = B at *
      have tr2 := Lib.hid (tr1.out.drewN nq)
      have kr2 := Lib.hid (kr1.out.drewN nq)
      clear hw1 hw2 hw3 c0 c1 c2 tr1 kr1
      generalize w1.drewN nq = w2 at *
      have c1 := tr2.out.c1
      have z1 := tr2.out.fz 1
      by_cases hbad : (0 < k ∧ B.toNat = 0) ∨ (k = 9 ∧ 1 < B.toNat)
      · have hr := Lib.hid (hat.out.bad hd.out hbad)
        have e9 : ((k : Int) == 9) = true ∧ (1 : Int) < B.toNat ∨ ((k : Int) == 9) = true ∧ ¬ (1 : Int) < B.toNat ∧ 0 < k ∧ ((B.toNat : Int) == 0) = true ∨ ((k : Int) == 9) = false ∧ 0 < k ∧ ((B.toNat : Int) == 0) = true := by
          by_cases e : k = 9
          · by_cases e1 : (1 : Int) < B.toNat
            · exact Or.inl ⟨by simp; omega, e1⟩
            · exact Or.inr (Or.inl ⟨by simp; omega, e1, by omega, by simp; omega⟩)
          · exact Or.inr (Or.inr ⟨by simp; omega, by omega, by simp; omega⟩)
        replace hbad := Lib.hid hbad
        rcases e9 with ⟨e9, e1⟩ | ⟨e9, e1, hk0, e0⟩ | ⟨e9, hk0, e0⟩
        all_goals
          go_wp2_with fail
          refine (refFail_hit b S a 3 _ tr2.out).mono ?_
          rintro e w3 ⟨rfl, t3, k3⟩
          replace t3 := Lib.hid t3
          replace k3 := Lib.hid (kr2.out.trans k3)
          clear c1 z1 tr2 kr2
          go_wp2_with fail
          go_ret
          exact ⟨by rw [hr.out]; rfl, by rw [hr.out]; exact t3.out, k3.out⟩
      · obtain ⟨acc', hadd, hacc', hac⟩ := add_next acc B.toNat k h9 hat.out.1 hb (by omega)
        have hnz : Hid (k = 0) ∨ (0 < k ∧ ((B.toNat : Int) == 0) = false) := by
          by_cases e : k = 0
          · exact Or.inl e
          · exact Or.inr ⟨by omega, by simp; omega⟩
        have hn9 : ((k : Int) == 9) = false ∨ (((k : Int) == 9) = true ∧ ¬ (1 : Int) < B.toNat) := by
          by_cases e : k = 9
          · exact Or.inr ⟨by simp; omega, by omega⟩
          · exact Or.inl (by simp; omega)
        by_cases hl : B.toNat < 128
        · have hr := Lib.hid (hat.out.last hd.out hbad hl hac.out)
          have hl2 : (B.toNat : Int) < 128 := by omega
          have ts : Hid (Rf (w2.setCell ⟨b, 1, none⟩ (.int .i64 ((a : Int) + ((k : Int) + 1)))) b S (a + (k + 1)) 0) := by
            have h := tr2.out.setAt (a + (k + 1))
            rw [show ((a + (k + 1) : Nat) : Int) = (a : Int) + ((k : Int) + 1) by omega] at h
            exact h
          replace hbad := Lib.hid hbad
          rcases hnz with h0 | ⟨h0, e0⟩ <;> rcases hn9 with e9 | ⟨e9, e1⟩
          all_goals go_wp2_with fail
          all_goals first | (go_ret; exact ⟨by rw [hr.out]; rfl, by rw [hr.out]; exact ts.out, kr2.out.setCell _ _⟩) | (have := h0.out; omega)
        · have hr := Lib.hid (hat.out.more hd.out hbad hl hac.out)
          have hl2 : ¬ (B.toNat : Int) < 128 := by omega
          have hk9 : k + 1 ≤ 9 := by omega
          replace hbad := Lib.hid hbad
          rcases hnz with h0 | ⟨h0, e0⟩ <;> rcases hn9 with e9 | ⟨e9, e1⟩
          all_goals go_wp2_with fail
          all_goals first | (refine ⟨⟨k + 1, acc', by omega, hk9, by go_num, rfl, hr, tr2, kr2⟩, ?_⟩; simp [intOf]; omega) | (have := h0.out; omega) | (exfalso; omega) | (exfalso; simp at e9; omega)
    · obtain hk2 : a + k = S.size := by omega
      have hr := Lib.hid (hat.out.torn (by rw [hlen.out]; omega))
      have hge : (S.size : Int) ≤ (a : Int) + k := by omega
      go_wp2_with fail
      go_quiet (fail)
      have tr1 := Lib.hid (tr.out.drewN nq)
      have kr1 := Lib.hid (kr.out.drewN nq)
      clear c0 c1 c2 tr kr
      generalize wr.drewN nq = w1 at *
      go_wp2_with fail
      refine (refFail_hit b S a 4 _ tr1.out).mono ?_
      rintro e w3 ⟨rfl, t3, k3⟩
      replace t3 := Lib.hid t3
      replace k3 := Lib.hid (kr1.out.trans k3)
      clear tr1 kr1
      go_wp2_with fail
      go_ret
      exact ⟨by rw [hr.out]; rfl, by rw [hr.out]; exact t3.out, k3.out⟩
end Go.Proofs.Ytnagidgffkffhaa
