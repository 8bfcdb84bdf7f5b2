/-
  A call of the script in a variable of its own ('Op3'), what stays while the logs are written, and whether a script is long.
-/
import Derived.Test.YtdkdkkledlolcaaSOpen
namespace Go.Proofs.Ytdkdkkledlolcaa
open Go.RowKit
set_option maxRecDepth 100000

structure Op3 (w : World) (q : Nat) (k m : Int) (T : ByteArray) : Prop where
  blk : w.heap[q]? = some (.cells #[.int .i64 k, .int .i64 m, .string T] 31 (0, 0))

theorem heap_lt {w : World} {b : Nat} {o : Obj} (h : w.heap[b]? = some o) : b < w.heap.size := by
  rcases Nat.lt_or_ge b w.heap.size with h2 | h2
  · exact h2
  · rw [Array.getElem?_eq_none h2] at h; cases h
theorem Op3.c0 {w : World} {q : Nat} {k m : Int} {T : ByteArray} (t : Op3 w q k m T) : w.cell? ⟨q, 0, none⟩ = some (.int .i64 k) := by rw [cell_of_row w q 0 _ _ _ t.blk]; rfl
theorem Op3.c1 {w : World} {q : Nat} {k m : Int} {T : ByteArray} (t : Op3 w q k m T) : w.cell? ⟨q, 1, none⟩ = some (.int .i64 m) := by rw [cell_of_row w q 1 _ _ _ t.blk]; rfl
theorem Op3.c2 {w : World} {q : Nat} {k m : Int} {T : ByteArray} (t : Op3 w q k m T) : w.cell? ⟨q, 2, none⟩ = some (.string T) := by rw [cell_of_row w q 2 _ _ _ t.blk]; rfl
theorem Op3.new (w : World) (k m : Int) (T : ByteArray) : Op3 (w.alloc (.cells #[.int .i64 k, .int .i64 m, .string T] 31)) w.heap.size k m T := ⟨heap_alloc_new w _⟩
theorem Op3.below {w w' : World} {q : Nat} {k m : Int} {T : ByteArray} (t : Op3 w q k m T) (h : Below w.heap.size w w') : Op3 w' q k m T := ⟨(h.block q (heap_lt t.blk)).trans t.blk⟩
theorem Op3.turn {B : Nat} {w w' : World} {q b : Nat} {k m : Int} {T S : ByteArray} {torn : Bool} {p : Option Addr} {cap : Nat} (o : Op3 w q k m T) (t : Lg B w b S torn p cap) (h : Turn b (.slice p S.size cap) w w') : Op3 w' q k m T :=
  ⟨(h.block q (heap_lt o.blk) (type_ne o.blk t.blk (by decide)) (own_ne t.own o.blk (by decide))).trans o.blk⟩
theorem Op3.kept {B : Nat} {w w' : World} {q b : Nat} {k m : Int} {T S : ByteArray} {torn : Bool} {p : Option Addr} {cap : Nat} (o : Op3 w q k m T) (t : Lg B w b S torn p cap) (h : D.Kept b w w') : Op3 w' q k m T :=
  ⟨(h.block q (heap_lt o.blk) (type_ne o.blk t.blk (by decide))).trans o.blk⟩
theorem Op3.keptR {w w' : World} {q b : Nat} {k m : Int} {T S : ByteArray} {torn : Bool} (o : Op3 w q k m T) (t : Rl w b S torn) (h : D.Kept b w w') : Op3 w' q k m T :=
  ⟨(h.block q (heap_lt o.blk) (type_ne o.blk t.blk (by decide))).trans o.blk⟩

/-- A row of texts grows: a log stays. -/
theorem Lg.grown {B base : Nat} {w w' : World} {b : Nat} {S : ByteArray} {torn : Bool} {p : Option Addr} {cap : Nat} {v : Value} {l : List ByteArray} {x : Obj} (t : Lg B w b S torn p cap) (o : Row w base v l) (hg : (w.alloc x).grownBy w' v.ownBlock) : Lg B w' b S torn p cap := by
  have hb : ∀ k, k < w.heap.size → v.ownBlock ≠ some k → w'.heap[k]? = w.heap[k]? := fun k hk hn => (hg.block k (by simp; omega) (fun e => hn e.symm)).trans (Below.heap_alloc _ _ _ hk)
  refine t.same (hb b t.lt fun e => ?_) fun g hgg => hb g (own_lt t.own hgg).2 fun e => ?_
  · obtain ⟨cur, hc⟩ := own_at o e
    exact type_ne hc t.blk (by decide) rfl
  · obtain ⟨cur, hc⟩ := own_at o e
    exact own_ne t.own hc (by decide) hgg
theorem Row.grown {b2 : Nat} {w w' : World} {v u : Value} {m : List ByteArray} {x : Obj} (y : Row w b2 u m) (hn : ∀ g, u.ownBlock = some g → v.ownBlock ≠ some g) (hg : (w.alloc x).grownBy w' v.ownBlock) : Row w' b2 u m :=
  own_same y fun g hgg => (hg.block g (by have := (own_lt y hgg).2; simp; omega) (fun e => hn g hgg e.symm)).trans (Below.heap_alloc _ _ _ (own_lt y hgg).2)
theorem Rl.turn {B : Nat} {w w' : World} {r b : Nat} {R S : ByteArray} {t1 torn : Bool} {p : Option Addr} {cap : Nat} (o : Rl w r R t1) (t : Lg B w b S torn p cap) (h : Turn b (.slice p S.size cap) w w') : Rl w' r R t1 :=
  o.same (h.block r o.lt (type_ne o.blk t.blk (by decide)) (own_ne t.own o.blk (by decide)))
theorem Rl.kept {B : Nat} {w w' : World} {r b : Nat} {R S : ByteArray} {t1 torn : Bool} {p : Option Addr} {cap : Nat} (o : Rl w r R t1) (t : Lg B w b S torn p cap) (h : D.Kept b w w') : Rl w' r R t1 :=
  o.same (h.block r o.lt (type_ne o.blk t.blk (by decide)))
theorem Lg.keptR {B : Nat} {w w' : World} {r b : Nat} {R S : ByteArray} {t1 torn : Bool} {p : Option Addr} {cap : Nat} (t : Lg B w b S torn p cap) (o : Rl w r R t1) (h : D.Kept r w w') : Lg B w' b S torn p cap :=
  t.same (h.block b t.lt (type_ne t.blk o.blk (by decide))) fun g hg => by
    obtain ⟨cur, hc⟩ := own_at t.own hg
    exact h.block g (own_lt t.own hg).2 (type_ne hc o.blk (by decide))
theorem Row.keptR {base : Nat} {w w' : World} {r : Nat} {R : ByteArray} {t1 : Bool} {v : Value} {l : List ByteArray} (y : Row w base v l) (o : Rl w r R t1) (h : D.Kept r w w') : Row w' base v l :=
  own_same y fun g hg => by
    obtain ⟨cur, hc⟩ := own_at y hg
    exact h.block g (own_lt y hg).2 (type_ne hc o.blk (by decide))

/-- The cells of the k-th call. -/
theorem IsOps.at {w wr : World} {a : Option Addr} {len : Nat} {K M : Nat → Int} {T : Nat → ByteArray} (h : IsOps w a len K M T) (b : Below w.heap.size w wr) (k : Nat) (hk : k < len) :
    ∃ y off, a = some ⟨y, off, none⟩ ∧ wr.cell? ⟨y, off + k * 3, none⟩ = some (.int .i64 (K k)) ∧ wr.cell? ⟨y, off + k * 3 + 1, none⟩ = some (.int .i64 (M k)) ∧ wr.cell? ⟨y, off + k * 3 + 2, none⟩ = some (.string (T k)) ∧ (T k).size ≤ maxLen ∧ len ≤ maxLen := by
  rcases h with h0 | ⟨y, off, rfl, hy, hl, hc⟩
  · omega
  · obtain ⟨c0, c1, c2, hz⟩ := hc k hk
    exact ⟨y, off, rfl, (b.cell (p := ⟨y, off + k * 3, none⟩) hy).trans c0, (b.cell (p := ⟨y, off + k * 3 + 1, none⟩) hy).trans c1, (b.cell (p := ⟨y, off + k * 3 + 2, none⟩) hy).trans c2, hz, hl⟩

/-- What the law's long adds up. -/
def sumN (T : Nat → ByteArray) : Nat → Nat
  | 0 => 0
  | k + 1 => sumN T k + (8 + min (T k).size 1048576)
theorem sumN_le (T : Nat → ByteArray) (k m : Nat) (h : k ≤ m) : sumN T k ≤ sumN T m := by
  induction m with
  | zero => obtain rfl : k = 0 := by omega
            exact Nat.le_refl _
  | succ m ih =>
    by_cases e : k = m + 1
    · rw [e]; exact Nat.le_refl _
    · have := ih (by omega)
      rw [sumN]; omega
theorem sumN_least (T : Nat → ByteArray) (k : Nat) : k * 8 ≤ sumN T k := by
  induction k with
  | zero => exact Nat.le_refl _
  | succ k ih => rw [sumN]; omega

set_option maxHeartbeats 800000 in
theorem long_any (a : Option Addr) (len cap : Nat) (K M : Nat → Int) (T : Nat → ByteArray) (w W : World) (hops : IsOps w a len K M T) (hW : Below w.heap.size w W) :
    Calls Try.prog 9 #[.slice a len cap] W fun e w' => e = .returned (.bool (decide (65536 < sumN T len))) ∧ Below W.heap.size W w' := by
  have hops0 := Lib.hid hops
  have hW0 := Lib.hid hW
  clear hops hW
  go_enter Try.func9, Try.ntmps9
  go_wp2_with fail
  go_loopw [3, 8] (fun s i wr => ∃ k n : Nat, k ≤ len ∧ Hid (n = sumN T k) ∧ n ≤ 65536 ∧ i = .int .i64 k ∧ s = .int .i64 n ∧ Hid (Below W.heap.size W wr)) (fun _ i _ => len - (intOf i).toNat)
  case atStart => exact ⟨0, 0, by omega, rfl, by omega, rfl, rfl, Below.refl _ _⟩
  case round =>
    obtain ⟨k, n, hk, hkn, hn, rfl, rfl, br⟩ := hrel
    by_cases hlt : k < len
    · obtain ⟨y, off, rfl, c0, c1, c2, hz, hl⟩ := hops0.out.at (hW0.out.trans (br.out.mono hW0.out.size)) k hlt
      clear hops0
      unfold maxLen at hl hz
      have hm1 : Hid (sumN T (k + 1) = sumN T k + (8 + min (T k).size 1048576)) := rfl
      have hmo := Lib.hid (sumN_le T (k + 1) len hlt)
      generalize K k = kk at *
      generalize M k = mm at *
      generalize T k = tt at *
      obtain ⟨m, hm, hm3⟩ : ∃ m : Nat, min (tt.size : Int) 1048576 = (m : Int) ∧ Hid (m = min tt.size 1048576) := ⟨min tt.size 1048576, by omega, rfl⟩
      have hm2 : m ≤ 1048576 := by omega
      have hlt2 : (k : Int) < len := by omega
      have hsum : Hid (n + (8 + m) = sumN T (k + 1)) := by show _ = _; rw [hm1.out, hkn.out, hm3.out]
      have o5 := Op3.new wr kk mm tt
      have c25 := o5.c2
      have br5 : Hid (Below W.heap.size W (wr.alloc (.cells #[.int .i64 kk, .int .i64 mm, .string tt] 31))) := br.out.alloc br.out.size _
      by_cases hb : 65536 < n + (8 + m)
      · have hb2 : (65536 : Int) < (n : Int) + (8 + (m : Int)) := by omega
        have hd : Hid (decide (65536 < sumN T len) = true) := by show _ = _; rw [decide_eq_true_iff]; have := hsum.out; have := hmo.out; omega
        go_wp2_with fail
        go_ret
        exact ⟨by rw [hd.out]; rfl, br5.out⟩
      · have hb2 : ¬ (65536 : Int) < (n : Int) + (8 + (m : Int)) := by omega
        go_wp2_with fail
        refine ⟨⟨k + 1, n + (8 + m), by omega, hsum, by omega, by go_num, by go_num, br5⟩, ?_⟩
        simp [intOf]; omega
    · obtain rfl : k = len := by omega
      have hd : Hid (decide (65536 < sumN T k) = false) := by show _ = _; rw [decide_eq_false_iff_not, ← hkn.out]; omega
      go_wp2_with fail
      go_ret
      exact ⟨by rw [hd.out]; rfl, br.out⟩
end Go.Proofs.Ytdkdkkledlolcaa
