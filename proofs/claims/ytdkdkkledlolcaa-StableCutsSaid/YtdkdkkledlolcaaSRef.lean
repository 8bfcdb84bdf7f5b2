/-
  The document's own log in memory ('Rl'), and its methods: Crash (whole or not) and Recover do what the program's do.
-/
import Derived.Test.YtdkdkkledlolcaaSRScan
import Derived.Test.YtdkdkkledlolcaaSOps2
namespace Go.Proofs.Ytdkdkkledlolcaa
open Go.RowKit
set_option maxRecDepth 100000

structure Rl (w : World) (b : Nat) (S : ByteArray) (torn : Bool) : Prop where
  blk : w.heap[b]? = some (.cells #[.string S, .bool torn] 29 (0, 0))
  sz : S.size ≤ 65536

theorem Rl.lt {w : World} {b : Nat} {S : ByteArray} {torn : Bool} (t : Rl w b S torn) : b < w.heap.size := by
  have := t.blk
  rcases Nat.lt_or_ge b w.heap.size with h | h
  · exact h
  · rw [Array.getElem?_eq_none h] at this; cases this
theorem Rl.c0 {w : World} {b : Nat} {S : ByteArray} {torn : Bool} (t : Rl w b S torn) : w.cell? ⟨b, 0, none⟩ = some (.string S) := by
  rw [cell_of_row w b 0 _ _ _ t.blk]; rfl
theorem Rl.c1 {w : World} {b : Nat} {S : ByteArray} {torn : Bool} (t : Rl w b S torn) : w.cell? ⟨b, 1, none⟩ = some (.bool torn) := by
  rw [cell_of_row w b 1 _ _ _ t.blk]; rfl
theorem Rl.fz {w : World} {b : Nat} {S : ByteArray} {torn : Bool} (t : Rl w b S torn) (o : Nat) : w.frozen? ⟨b, o, none⟩ = false := frozen_of_row w b o _ _ t.blk
theorem Rl.same {w w' : World} {b : Nat} {S : ByteArray} {torn : Bool} (t : Rl w b S torn) (h : w'.heap[b]? = w.heap[b]?) : Rl w' b S torn := ⟨h.trans t.blk, t.sz⟩
theorem Rl.below {w w' : World} {b : Nat} {S : ByteArray} {torn : Bool} (t : Rl w b S torn) (k : Below w.heap.size w w') : Rl w' b S torn := t.same (k.block b t.lt)
theorem Rl.set {w : World} {b : Nat} {S : ByteArray} {torn : Bool} (t : Rl w b S torn) (X : ByteArray) (h : X.size ≤ 65536) : Rl (w.setCell ⟨b, 0, none⟩ (.string X)) b X torn := by
  refine ⟨?_, h⟩
  rw [heap_setCell_same w b 0 _ _ _ t.blk]; rfl
theorem Rl.setTorn {w : World} {b : Nat} {S : ByteArray} {torn : Bool} (t : Rl w b S torn) (x : Bool) : Rl (w.setCell ⟨b, 1, none⟩ (.bool x)) b S x := by
  refine ⟨?_, t.sz⟩
  rw [heap_setCell_same w b 1 _ _ _ t.blk]; rfl

set_option maxHeartbeats 800000 in
theorem refCrash_any (w : World) (b : Nat) (S s : ByteArray) (torn whole : Bool) (keep : Int) (t : Rl w b S torn) :
    Calls Try.prog 12 #[.pointer (some ⟨b, 0, none⟩), .string s, .int .i64 keep, .bool whole] w fun e w' => e = .returned (.int .i64 (errS S torn s : Nat)) ∧ Rl w' b (bif whole then appS S torn s else crS S torn s keep) (bif whole then torn else crT S torn s) ∧ D.Kept b w w' := by
  by_cases h0 : errS S torn s = 0
  · obtain ⟨hs1, rfl, hs2⟩ := errS_zero h0
    have ha1 : Hid (appS S false s = S ++ recB s) := by show appS _ _ _ = _; rw [appS, if_pos h0]
    have ha2 : Hid (crS S false s keep = S ++ (recB s).extract 0 (keepN keep (recB s).size)) := by show crS _ _ _ _ = _; rw [crS, if_pos h0]
    have ha3 : Hid (crT S false s = true) := by show crT _ _ _ = _; rw [crT, if_pos h0]
    have hb := Lib.hid (refBytes_any s w (by omega))
    rw [h0]
    clear h0
    have h1' : ¬ (1024 : Int) < s.size := by omega
    have h2' : ¬ (65536 : Int) < (S.size : Int) + (recB s).size := by omega
    have hkn := keepN_int keep (recB s).size
    have hkl := keepN_le keep (recB s).size
    generalize keepN keep (recB s).size = m at *
    have hxs : ((recB s).extract 0 m).size = m := D.size_take _ _ hkl
    have c1 := t.c1
    replace t := Lib.hid t
    generalize hX : (recB s).extract 0 m = X at *
    generalize recB s = Y at *
    have hz1 : ¬ 9223372036854775807 < S.size + Y.size := by omega
    have hz2 : ¬ 9223372036854775807 < S.size + X.size := by omega
    have hm0 : (0 : Int) ≤ (m : Int) := by omega
    have hm1 : (m : Int) ≤ (Y.size : Int) := by omega
    cases whole
    · go_enter Try.func12, Try.ntmps12
      go_wp2_with fail
      refine hb.out.mono ?_
      rintro e w1 ⟨rfl, b1⟩
      have t1 := t.out.below b1
      have c01 := t1.c0
      have f01 := t1.fz 0
      have td := t1.set (S ++ X) (by rw [D.size_append']; omega)
      have t2 : Rl (w1.setCell ⟨b, 0, none⟩ (.string (S ++ X))).drew b (S ++ X) false := td.same rfl
      have c02 := t2.c1
      have f02 := t2.fz 1
      have t3 := Lib.hid (t2.setTorn true)
      have k3 := Lib.hid ((((D.Kept.ofBelow (b := b) b1).setCell 0 (.string (S ++ X))).drew).setCell 1 (.bool true))
      have ha4 : Hid (crS S false s keep = S ++ X) := ha2
      clear hb c1 b1 t1 t2 hxs td ha2
      generalize hZ : S ++ X = Z at *
      go_wp2_with fail
      go_region_law (fail)
      all_goals
        clear c01 f01
        generalize (w1.setCell ⟨b, 0, none⟩ (.string Z)).drew = w9 at *
        go_wp2_with fail
        go_ret
        exact ⟨rfl, by rw [cond_false, cond_false, ha4.out, ha3.out]; exact t3.out, k3.out⟩
    · go_enter Try.func12, Try.ntmps12
      go_wp2_with fail
      refine hb.out.mono ?_
      rintro e w1 ⟨rfl, b1⟩
      have t1 := t.out.below b1
      have c01 := t1.c0
      have f01 := t1.fz 0
      have t2 := Lib.hid (t1.set (S ++ Y) (by rw [D.size_append']; omega))
      have k2 := Lib.hid ((D.Kept.ofBelow (b := b) b1).setCell 0 (.string (S ++ Y)))
      clear hb c1 b1 t1
      go_wp2_with fail
      go_ret
      exact ⟨rfl, by rw [cond_true, cond_true, ha1.out]; exact t2.out, k2.out⟩
  · have ha1 : Hid (appS S torn s = S) := by show appS _ _ _ = _; rw [appS, if_neg h0]
    have ha2 : Hid (crS S torn s keep = S) := by show crS _ _ _ _ = _; rw [crS, if_neg h0]
    have ha3 : Hid (crT S torn s = torn) := by show crT _ _ _ = _; rw [crT, if_neg h0]
    have fin : Hid (∀ w', Below w.heap.size w w' → Rl w' b (bif whole then appS S torn s else crS S torn s keep) (bif whole then torn else crT S torn s) ∧ D.Kept b w w') := fun w' k => by
      rw [ha1.out, ha2.out, ha3.out]
      refine ⟨?_, D.Kept.ofBelow k⟩
      cases whole <;> exact t.below k
    have c1 := t.c1
    by_cases h1 : 1024 < s.size
    · rw [errS_long h1]
      have h1' : (1024 : Int) < s.size := by omega
      clear h0 ha1 ha2 ha3
      go_enter Try.func12, Try.ntmps12
      go_wp2_with fail
      go_ret
      exact ⟨rfl, fin.out _ (Below.refl _ _)⟩
    · have h1' : ¬ (1024 : Int) < s.size := by omega
      cases torn
      · by_cases h2 : 65536 < S.size + (recB s).size
        · rw [errS_full h1 h2]
          have h2' : (65536 : Int) < (S.size : Int) + (recB s).size := by omega
          have hb := Lib.hid (refBytes_any s w (by omega))
          have hm := recB_most (t := s) (by omega)
          have hsz := t.sz
          replace t := Lib.hid t
          clear h0 ha1 ha2 ha3
          generalize recB s = Y at *
          go_enter Try.func12, Try.ntmps12
          go_wp2_with fail
          refine hb.out.mono ?_
          rintro e w1 ⟨rfl, b1⟩
          have c01 := (t.out.below b1).c0
          replace b1 := Lib.hid b1
          clear hb c1
          go_wp2_with fail
          go_ret
          exact ⟨rfl, fin.out _ b1.out⟩
        · exact absurd (errS_ok h1 h2) h0
      · rw [errS_torn h1]
        replace t := Lib.hid t
        clear h0 ha1 ha2 ha3
        go_enter Try.func12, Try.ntmps12
        go_wp2_with fail
        go_ret
        exact ⟨rfl, fin.out _ (Below.refl _ _)⟩

set_option maxHeartbeats 800000 in
theorem refRecover_any (w : World) (b : Nat) (S Q : ByteArray) (l : List ByteArray) (torn : Bool) (t : Rl w b S torn) (hl : S = cat l ++ Q) (hQ : NoRec Q) :
    Calls Try.prog 16 #[.pointer (some ⟨b, 0, none⟩)] w fun e w' => ∃ v, e = .returned v ∧ Row w' w.heap.size v l ∧ Rl w' b (cat l) false ∧ D.Kept b w w' := by
  have c0 := t.c0
  have hsz := t.sz
  have hsc := Lib.hid (refScan_any S Q l w (by omega) hl hQ)
  have hle : (cat l).size ≤ S.size := by rw [hl, D.size_append']; omega
  have hcut : S.extract 0 (cat l).size = cat l := by rw [hl]; exact D.take_append _ _ _ rfl
  replace t := Lib.hid t
  clear hl hQ
  generalize hC : cat l = C at *
  obtain ⟨n, hn⟩ : ∃ n, C.size = n := ⟨_, rfl⟩
  have hn0 := Lib.hid hn
  rw [hn] at hsc hle hcut
  clear hn
  have h1 : (n : Int) ≤ (S.size : Int) := by omega
  have h2 : (0 : Int) ≤ (n : Int) := by omega
  go_enter Try.func16, Try.ntmps16
  go_wp2_with fail
  refine hsc.out.mono ?_
  rintro e w1 ⟨v, rfl, o1, b1⟩
  have t1 := t.out.below b1
  have c01 := t1.c0
  have f01 := t1.fz 0
  have t2 := t1.set C (by rw [hn0.out]; omega)
  have c12 := t2.c1
  have f12 := t2.fz 1
  have t3 := Lib.hid (t2.setTorn false)
  have k3 : Hid (D.Kept b w ((w1.setCell ⟨b, 0, none⟩ (.string C)).setCell ⟨b, 1, none⟩ (.bool false))) := ((D.Kept.ofBelow b1).setCell _ _).setCell _ _
  have hvb : v.ownBlock ≠ some b := fun e => by have := (own_lt o1 e).1; have := t.out.lt; omega
  have o3 : Hid (Row ((w1.setCell ⟨b, 0, none⟩ (.string C)).setCell ⟨b, 1, none⟩ (.bool false)) w.heap.size v l) := own_same o1 fun g hg => by
    have : g ≠ b := fun e => hvb (e ▸ hg)
    rw [Below.heap_setCell _ _ _ _ this, Below.heap_setCell _ _ _ _ this]
  clear c0 t1 b1 o1 t2 hvb hsc hC
  go_wp2_with fail
  go_ret
  exact ⟨v, rfl, o3.out, t3.out, k3.out⟩
end Go.Proofs.Ytdkdkkledlolcaa
