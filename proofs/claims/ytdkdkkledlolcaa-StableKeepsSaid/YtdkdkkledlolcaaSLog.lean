/-
  stable.Log in memory ('Lg': its block, and the row of its bytes), and what its methods do: New, fit, Append, Crash, Size. A log has at most 65536 bytes.
-/
import Derived.Test.YtdkdkkledlolcaaSScan
import Derived.Lib.AppendStr
import Derived.Lib.MinMax
namespace Go.Proofs.Ytdkdkkledlolcaa
open Go.RowKit
set_option maxRecDepth 100000
variable {base : Nat}

/-- Which error an Append of s has, where the bytes are S (and a crash wasn't recovered from). -/
def errS (S : ByteArray) (torn : Bool) (s : ByteArray) : Nat :=
  if 1024 < s.size then 15 else if torn = true then 13 else if 65536 < S.size + (recB s).size then 5 else 0

theorem errS_long {S s : ByteArray} {torn : Bool} (h : 1024 < s.size) : errS S torn s = 15 := by rw [errS, if_pos h]
theorem errS_torn {S s : ByteArray} (h : ¬ 1024 < s.size) : errS S true s = 13 := by rw [errS, if_neg h, if_pos rfl]
theorem errS_full {S s : ByteArray} (h : ¬ 1024 < s.size) (h2 : 65536 < S.size + (recB s).size) : errS S false s = 5 := by rw [errS, if_neg h, if_neg (by decide), if_pos h2]
theorem errS_ok {S s : ByteArray} (h : ¬ 1024 < s.size) (h2 : ¬ 65536 < S.size + (recB s).size) : errS S false s = 0 := by rw [errS, if_neg h, if_neg (by decide), if_neg h2]
theorem errS_zero {S s : ByteArray} {torn : Bool} (h : errS S torn s = 0) : s.size ≤ 1024 ∧ torn = false ∧ S.size + (recB s).size ≤ 65536 := by
  unfold errS at h
  by_cases h1 : 1024 < s.size
  · rw [if_pos h1] at h; omega
  · rw [if_neg h1] at h
    cases torn
    · rw [if_neg (by decide)] at h
      by_cases h2 : 65536 < S.size + (recB s).size
      · rw [if_pos h2] at h; omega
      · exact ⟨by omega, rfl, by omega⟩
    · rw [if_pos rfl] at h; omega
theorem errS_lt (S s : ByteArray) (torn : Bool) : errS S torn s ≤ 15 := by
  unfold errS; split
  · omega
  · split
    · omega
    · split <;> omega

/-- A log: its block, and the row of its bytes. -/
structure Lg (base : Nat) (w : World) (b : Nat) (S : ByteArray) (torn : Bool) (p : Option Addr) (cap : Nat) : Prop where
  blk : w.heap[b]? = some (.cells #[.slice p S.size cap, .bool torn] 49 (0, 0))
  own : w.ownsRow base 5 1 (.slice p S.size cap) S.size (Lib.strCells S)
  sz : S.size ≤ 65536
  hb : base ≤ b

/-- Of what was there only the log's own blocks may have turned. -/
structure Turn (b : Nat) (v : Value) (w w' : World) : Prop where
  os : w'.os = w.os
  tape : w'.tape = w.tape
  output : w'.output = w.output
  size : w.heap.size ≤ w'.heap.size
  block : ∀ k, k < w.heap.size → k ≠ b → v.ownBlock ≠ some k → w'.heap[k]? = w.heap[k]?

theorem Turn.ofBelow {b : Nat} {v : Value} {w w' : World} (h : Below w.heap.size w w') : Turn b v w w' := ⟨h.os, h.tape, h.output, h.size, fun k hk _ _ => h.block k hk⟩
theorem Turn.after {b : Nat} {v : Value} {w w1 w' : World} (k : Below w.heap.size w w1) (h : Turn b v w1 w') : Turn b v w w' :=
  ⟨h.os.trans k.os, h.tape.trans k.tape, h.output.trans k.output, Nat.le_trans k.size h.size, fun i hi h1 h2 => (h.block i (Nat.lt_of_lt_of_le hi k.size) h1 h2).trans (k.block i hi)⟩
theorem Turn.setCell {b : Nat} {v : Value} {x w : World} (h : Turn b v x w) (o : Nat) (u : Value) : Turn b v x (w.setCell ⟨b, o, none⟩ u) :=
  ⟨h.os, h.tape, h.output, by simpa [World.setCell] using h.size, fun k hk h1 h2 => (Below.heap_setCell _ _ _ _ h1).trans (h.block k hk h1 h2)⟩
theorem Turn.drew {b : Nat} {v : Value} {x w : World} (h : Turn b v x w) : Turn b v x w.drew := ⟨h.os, h.tape, h.output, h.size, h.block⟩
theorem Turn.below {b B : Nat} {v : Value} {w w' : World} (h : Turn b v w w') (hb : B ≤ b) (hv : ∀ g, v.ownBlock = some g → B ≤ g) (hB : B ≤ w.heap.size) : Below B w w' :=
  ⟨h.os, h.tape, h.output, h.size, fun k hk => h.block k (by omega) (by omega) (fun e => by have := hv k e; omega)⟩

theorem Lg.lt {w : World} {b : Nat} {S : ByteArray} {torn : Bool} {p : Option Addr} {cap : Nat} (t : Lg base w b S torn p cap) : b < w.heap.size := by
  have := t.blk
  rcases Nat.lt_or_ge b w.heap.size with h | h
  · exact h
  · rw [Array.getElem?_eq_none h] at this; cases this
theorem Lg.c0 {w : World} {b : Nat} {S : ByteArray} {torn : Bool} {p : Option Addr} {cap : Nat} (t : Lg base w b S torn p cap) : w.cell? ⟨b, 0, none⟩ = some (.slice p S.size cap) := by
  rw [cell_of_row w b 0 _ _ _ t.blk]; rfl
theorem Lg.c1 {w : World} {b : Nat} {S : ByteArray} {torn : Bool} {p : Option Addr} {cap : Nat} (t : Lg base w b S torn p cap) : w.cell? ⟨b, 1, none⟩ = some (.bool torn) := by
  rw [cell_of_row w b 1 _ _ _ t.blk]; rfl
theorem Lg.fz {w : World} {b : Nat} {S : ByteArray} {torn : Bool} {p : Option Addr} {cap : Nat} (t : Lg base w b S torn p cap) (o : Nat) : w.frozen? ⟨b, o, none⟩ = false := frozen_of_row w b o _ _ t.blk
theorem own_ne {w : World} {n b : Nat} {v : Value} {xs : List Value} {c : Array Value} {t : Nat} {fr : Nat × Nat} (h : w.ownsRow base 5 1 v n xs) (hb : w.heap[b]? = some (.cells c t fr)) (ht : t ≠ 5) : v.ownBlock ≠ some b := by
  intro e
  rcases h.2 with ⟨rfl, _⟩ | ⟨g, cap, cur, rfl, _, hg, _⟩
  · simp [Value.ownBlock] at e
  · simp [Value.ownBlock] at e
    subst e
    rw [hg] at hb
    injection hb with hb
    injection hb with _ h2 _
    exact ht h2.symm
theorem Lg.same {w w' : World} {b : Nat} {S : ByteArray} {torn : Bool} {p : Option Addr} {cap : Nat} (t : Lg base w b S torn p cap) (hb : w'.heap[b]? = w.heap[b]?) (hg : ∀ g, (Value.slice p S.size cap).ownBlock = some g → w'.heap[g]? = w.heap[g]?) : Lg base w' b S torn p cap :=
  ⟨hb.trans t.blk, own_same t.own hg, t.sz, t.hb⟩
theorem Lg.turn {w w' : World} {b : Nat} {S : ByteArray} {torn : Bool} {p : Option Addr} {cap : Nat} (t : Lg base w b S torn p cap) (h : Turn b (.slice p S.size cap) w w') : Below base w w' :=
  h.below t.hb (fun _ hg => (own_lt t.own hg).1) (by have := t.hb; have := t.lt; omega)
theorem Lg.below {w w' : World} {b : Nat} {S : ByteArray} {torn : Bool} {p : Option Addr} {cap : Nat} (t : Lg base w b S torn p cap) (k : Below w.heap.size w w') : Lg base w' b S torn p cap :=
  t.same (k.block b t.lt) fun g hg => k.block g (own_lt t.own hg).2
theorem own_slice {w : World} {base e size n : Nat} {v : Value} {xs : List Value} (h : w.ownsRow base e size v n xs) : ∃ p cap, v = .slice p n cap := by
  rcases h.2 with ⟨rfl, rfl⟩ | ⟨g, cap, cur, rfl, _⟩
  · exact ⟨none, 0, rfl⟩
  · exact ⟨_, cap, rfl⟩
theorem strCells_app (x y : ByteArray) : Lib.strCells (x ++ y) = Lib.strCells x ++ Lib.strCells y := by
  unfold Lib.strCells; rw [ByteArray.data_append]; simp
/-- The log's block written anew. -/
theorem Lg.set {w : World} {b n cap : Nat} {torn : Bool} {v : Value} {p : Option Addr} {S : ByteArray} (hb : w.heap[b]? = some (.cells #[v, .bool torn] 49 (0, 0))) (o : w.ownsRow base 5 1 (.slice p n cap) n (Lib.strCells S)) (hn : n = S.size) (hs : S.size ≤ 65536) (hbb : base ≤ b) :
    Lg base (w.setCell ⟨b, 0, none⟩ (.slice p n cap)) b S torn p cap := by
  subst hn
  refine ⟨?_, own_same o fun g hg => Below.heap_setCell _ _ _ _ (fun e => own_ne o hb (by decide) (by rw [← (show g = b from e)]; exact hg)), hs, hbb⟩
  rw [heap_setCell_same w b 0 _ _ _ hb]; rfl
theorem Lg.setTorn {w : World} {b cap : Nat} {torn : Bool} {p : Option Addr} {S : ByteArray} (t : Lg base w b S torn p cap) (x : Bool) : Lg base (w.setCell ⟨b, 1, none⟩ (.bool x)) b S x p cap := by
  refine ⟨?_, own_same t.own fun g hg => Below.heap_setCell _ _ _ _ (fun e => own_ne t.own t.blk (by decide) (by rw [← (show g = b from e)]; exact hg)), t.sz, t.hb⟩
  rw [heap_setCell_same w b 1 _ _ _ t.blk]; rfl

theorem Try.info5 : (Try.prog.info? 5).map (fun i => (i.zero, i.size, i.bytes)) = some (some (.int .u8 0), 1, 1) := by kernel_rfl

/-- Bytes appended to the log's row. -/
theorem push (w : World) (b : Nat) (S X : ByteArray) (torn : Bool) (p : Option Addr) (cap : Nat) (t : Lg base w b S torn p cap) (hX : S.size + X.size ≤ 65536) :
    ∃ p' cap' w', (∀ ty, (Builtin.append_ #[47, 9] ty #[.slice p S.size cap, .string X]).run Try.prog w = .ok (.slice p' (S.size + X.size) cap') w') ∧ w'.cell? ⟨b, 0, none⟩ = some (.slice p S.size cap) ∧ w'.frozen? ⟨b, 0, none⟩ = false ∧
      Lg base (w'.setCell ⟨b, 0, none⟩ (.slice p' (S.size + X.size) cap')) b (S ++ X) torn p' cap' ∧ Turn b (.slice p S.size cap) w (w'.setCell ⟨b, 0, none⟩ (.slice p' (S.size + X.size) cap')) := by
  obtain ⟨i0, hi, hz0, hz1, hz2⟩ := info_parts Try.info5
  obtain ⟨v', w', hr, ho, hg, -⟩ := Lib.run_append_own_string w base 47 9 47 5 i0 Try.underlying47 Try.underlying9 hi hz0 hz1 hz2 _ _ _ t.own X (by unfold maxLen; omega) (by omega) (by have := t.hb; have := t.lt; omega)
  obtain ⟨p', cap', rfl⟩ := own_slice ho
  have hb : w'.heap[b]? = w.heap[b]? := hg.block b t.lt (fun e => own_ne t.own t.blk (by decide) e.symm)
  refine ⟨p', cap', w', fun ty => ?_, (World.cell?_of_block (w := w) hb).trans t.c0, (World.frozen?_of_block (w := w) hb).trans (t.fz 0), ?_, ?_⟩
  · exact hr
  · refine Lg.set (torn := torn) (hb.trans t.blk) (by rw [strCells_app]; exact ho) (D.size_append' S X).symm (by rw [D.size_append']; exact hX) t.hb
  · exact Turn.setCell ⟨hg.os, hg.tape, hg.output, hg.size, fun k hk _ h2 => hg.block k hk (fun e => h2 e.symm)⟩ _ _

/-- stable.New. -/
theorem new_any (w : World) : Calls Try.prog 10 #[] w fun e w' => e = .returned (.pointer (some ⟨w.heap.size, 0, none⟩)) ∧ Lg w.heap.size w' w.heap.size ⟨#[]⟩ false none 0 ∧ Below w.heap.size w w' := by
  go_enter Try.func10, Try.ntmps10
  go_wp2
  go_ret
  exact ⟨rfl, ⟨heap_alloc_new w _, World.ownsRow_nil _ _ _ _, by show (0 : Nat) ≤ 65536; omega, Nat.le_refl _⟩, (Below.refl _ _).alloc (Nat.le_refl _) _⟩

set_option maxHeartbeats 400000 in
theorem fit_any (w : World) (b : Nat) (S s : ByteArray) (torn : Bool) (p : Option Addr) (cap : Nat) (t : Lg base w b S torn p cap) :
    Calls Try.prog 23 #[.pointer (some ⟨b, 0, none⟩), .string s] w fun e w' => ∃ x, e = .returned (.tuple #[.string x, .int .i64 (errS S torn s : Nat)]) ∧ (errS S torn s = 0 → x = recB s) ∧ Below w.heap.size w w' := by
  by_cases h1 : 1024 < s.size
  · rw [errS_long h1]
    have h1' : (1024 : Int) < s.size := by omega
    go_enter Try.func23, Try.ntmps23
    go_wp2_with fail
    go_ret2
    exact ⟨_, rfl, fun h => absurd h (by omega), Below.refl _ _⟩
  · have h1' : ¬ (1024 : Int) < s.size := by omega
    have c0 := t.c0
    have c1 := t.c1
    have hsz := t.sz
    cases torn
    · have hb := Lib.hid (bytes_any s w (by omega))
      by_cases h2 : 65536 < S.size + (recB s).size
      · rw [errS_full h1 h2]
        have h2' : (65536 : Int) < (S.size : Int) + (recB s).size := by omega
        have hm := recB_most (t := s) (by omega)
        replace t := Lib.hid t
        generalize recB s = X at *
        go_enter Try.func23, Try.ntmps23
        go_wp2_with fail
        refine hb.out.mono ?_
        rintro e w1 ⟨rfl, b1⟩
        have c01 := (t.out.below b1).c0
        replace b1 := Lib.hid b1
        clear hb c0 c1
        go_wp2_with fail
        go_ret2
        exact ⟨_, rfl, fun h => absurd h (by omega), b1.out⟩
      · rw [errS_ok h1 h2]
        have h2' : ¬ (65536 : Int) < (S.size : Int) + (recB s).size := by omega
        have hm := recB_most (t := s) (by omega)
        replace t := Lib.hid t
        generalize recB s = X at *
        go_enter Try.func23, Try.ntmps23
        go_wp2_with fail
        refine hb.out.mono ?_
        rintro e w1 ⟨rfl, b1⟩
        have c01 := (t.out.below b1).c0
        replace b1 := Lib.hid b1
        clear hb c0 c1
        go_wp2_with fail
        go_ret2
        exact ⟨_, rfl, fun _ => rfl, b1.out⟩
    · rw [errS_torn h1]
      replace t := Lib.hid t
      go_enter Try.func23, Try.ntmps23
      go_wp2_with fail
      go_ret2
      exact ⟨⟨_, rfl⟩, Below.refl _ _⟩
end Go.Proofs.Ytdkdkkledlolcaa
