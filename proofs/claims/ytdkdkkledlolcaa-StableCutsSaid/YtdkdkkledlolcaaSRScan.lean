/-
  The document's Scan: the same records, and as far. Condition: at most 90000 bytes.
-/
import Derived.Test.YtdkdkkledlolcaaSScan
import Derived.Deep.RegionHeld3
namespace Go.Proofs.Ytdkdkkledlolcaa
open Go.RowKit
set_option maxRecDepth 100000

theorem rfS_new (s : ByteArray) (k : Nat) (w : World) (hk : k ≤ s.size) (hs : s.size ≤ 100000) : D.RfS (w.alloc (.cells #[.string s, .int .i64 k, .int .i64 0] 54)) w.heap.size s ⟨D.cutS s k, 0⟩ :=
  ⟨⟨k, ⟨by simp, by simp, by simp, by simp, fun o => by simp⟩, hk, fun _ => rfl⟩, hs⟩

set_option maxHeartbeats 1600000 in
theorem refScan_any (s Q : ByteArray) (l : List ByteArray) (w : World) (hs : s.size ≤ 90000) (hl : s = cat l ++ Q) (hQ : NoRec Q) :
    Calls Try.prog 18 #[.string s] w fun e w' => ∃ v, e = .returned (.tuple #[v, .int .i64 ((cat l).size : Nat)]) ∧ Row w' w.heap.size v l ∧ Below w.heap.size w w' := by
  obtain ⟨i0, hi, hz0, hz1, hz2⟩ := info_parts Try.info9
  have hl0 := Lib.hid hl
  have hQ0 := Lib.hid hQ
  clear hl hQ
  go_enter Try.func18, Try.ntmps18
  go_wp2_with fail
  go_loopw [4, 5] (fun v g wr => ∃ (pre : List ByteArray) (R : ByteArray) (k : Nat), Hid (s = cat pre ++ R) ∧ Hid (k = (cat pre).size) ∧ k + R.size = s.size ∧ g = .int .i64 k ∧ Hid (Row wr w.heap.size v pre) ∧ Hid (Below w.heap.size w wr)) (fun _ g _ => s.size + 1 - (intOf g).toNat)
  case atStart => exact ⟨[], s, 0, (nil_app s).symm, rfl, by omega, rfl, World.ownsRow_nil _ _ _ _, Below.refl _ _⟩
  case round =>
    obtain ⟨pre, R, k, hs2, hk, hkR, rfl, ho, br⟩ := hrel
    have hcut : Hid (D.cutS s k = R) := by show D.cutS s k = R; rw [hk.out]; have := hs2.out; rw [this]; exact D.cut_append _ _ _ rfl
    have hp : pre.length ≤ k := by rw [hk.out]; have := cat_len pre; omega
    have hkle : k ≤ s.size := by omega
    go_wp2_with fail
    have t0 := rfS_new s k wr hkle (by omega)
    rw [hcut.out] at t0
    refine (D.refStr_all wr.heap.size s ⟨R, 0⟩ 1099511627776 _ (by omega) (by omega) t0).mono ?_
    rintro e w2 ⟨rfl, t2, k2⟩
    clear t0
    have hb0 : Below wr.heap.size wr w2 := ((Below.refl _ _).alloc (Nat.le_refl _) _).trans (k2.below (Nat.le_refl _) (by simp))
    have hwr2 := hb0.size
    have hbr : w.heap.size ≤ wr.heap.size := br.out.size
    have hor := ho
    replace ho := Lib.hid (own_below ho.out hb0)
    have br2 : Hid (Below w.heap.size w w2) := br.out.trans (hb0.mono hbr)
    obtain ⟨⟨a, rf, ha, hra⟩, -⟩ := t2
    have hlt2 := rf.lt
    have hgb : ∀ g, u4.ownBlock = some g → g ≠ wr.heap.size := fun g hg => by have := (own_lt hor.out hg).2; omega
    replace hgb := Lib.hid hgb
    clear k2 hb0 br hor
    generalize wr.heap.size = b at *
    by_cases hf : ∃ t Q, R = D.strB t ++ Q
    · obtain ⟨x, Q', hx⟩ := hf
      have hsR : R.size = (D.strB x).size + Q'.size := by rw [hx, D.size_append']
      have hxz := strB_least x
      have hst : D.strS ⟨R, 0⟩ 1099511627776 = (x, ⟨Q', 0⟩) := by
        have := str_form x Q' 1099511627776 (by omega) (by omega)
        rw [← hx] at this
        exact this
      rw [hst] at rf hra ⊢
      have hra2 : Q' = D.cutS s a := hra rfl
      have haQ : s.size - a = Q'.size := by rw [hra2, D.cutS_size]
      have c2 : w2.cell? ⟨b, 2, none⟩ = some (.int .i64 0) := rf.c2
      have c1 := rf.c1
      replace rf := Lib.hid rf
      have hka : a = k + (D.strB x).size := by omega
      have hxs : x.size ≤ 90000 := by omega
      replace hra := Lib.hid hra
      replace hra2 := Lib.hid hra2
      replace hst := Lib.hid hst
      have hx0 := Lib.hid hx
      clear hx
      dsimp only
      by_cases h4 : Q'.size < 4
      · have hno : Hid (NoRec R) := by
          have := noRec_str (t := x) (Q := Q') (by rw [← hx0.out]; omega) (Or.inl h4)
          rw [← hx0.out] at this
          exact this
        have hgt : (s.size : Int) < (a : Int) + 4 := by omega
        clear hka hxz
        go_wp2_with fail
        go_quiet (fail)
        replace ho := Lib.hid (own_below ho.out (below_drewN (Below.refl _ _) nq))
        replace br2 := Lib.hid (below_drewN br2.out nq)
        clear c1 c2 rf
        generalize w2.drewN nq = w3 at *
        obtain ⟨rfl, rfl⟩ := scan_one pre l R Q (by rw [← hs2.out]; omega) hno.out hQ0.out (hs2.out.symm.trans hl0.out)
        go_wp2_with fail
        go_ret2
        exact ⟨_, by rw [← hk.out]; rfl, ho.out, br2.out⟩
      · have hgt : ¬ (s.size : Int) < (a : Int) + 4 := by omega
        have hsl : s.extract k (a + 4) = D.strB x ++ Q'.extract 0 4 := by
          have e1 : s = cat pre ++ (D.strB x ++ Q') := by rw [← hx0.out]; exact hs2.out
          refine D.text_inj ?_
          rw [D.bytes_extract, D.bytes_append, D.bytes_take, ← D.bytes_cut, hcut.out, hx0.out, D.bytes_append, hka, show k + (D.strB x).size + 4 - k = (D.strB x).size + 4 by omega, List.take_append, List.take_of_length_le (l := D.bytesOf (D.strB x)) (by rw [D.bytesOf_len]; omega), D.bytesOf_len, Nat.add_sub_cancel_left]
        have hby : Hid (∀ W, Hid (Calls Try.prog 24 #[.string x] W fun e w' => e = .returned (.string (recB x)) ∧ Below W.heap.size W w')) := fun W => refBytes_any x W hxs
        have hq4 : (Q'.extract 0 4).size = 4 := D.size_take _ _ (by omega)
        obtain ⟨q, hne, hq⟩ : ∃ q, ((recB x).toList == (D.strB x ++ Q'.extract 0 4).toList) = q ∧ Hid (q = true ↔ Q'.extract 0 4 = tl x) := by
          refine ⟨_, rfl, ?_⟩
          show _ ↔ _
          rw [beq_iff_eq, Lib.toList_data, Lib.toList_data]
          constructor
          · intro e
            have e2 := WideShapes.bytes_inj e
            rw [recB_eq] at e2
            exact (app_left e2).symm
          · intro e
            rw [e, recB_eq]
        have hs3 : Hid (q = true → s = cat (pre ++ [x]) ++ D.cutS Q' 4) := fun e => by
          have hm := hq.out.1 e
          have hRt : R = recB x ++ D.cutS Q' 4 := by rw [recB_eq, D.app_assoc, ← hm, ← cut_all]; exact hx0.out
          rw [cat_snoc, D.app_assoc, ← hRt]; exact hs2.out
        have hk3 : Hid (a + 4 = (cat (pre ++ [x])).size) := by
          show _ = _
          rw [cat_snoc, D.size_append', ← hk.out, recB_size]; omega
        have hno : Hid (q = false → NoRec R) := fun e => by
          have := noRec_str (t := x) (Q := Q') (by rw [← hx0.out]; omega) (Or.inr fun h => by have := hq.out.2 h; rw [e] at this; cases this)
          rw [← hx0.out] at this
          exact this
        have hQ4 : (D.cutS Q' 4).size = Q'.size - 4 := D.cutS_size _ _
        have hi1 : (0 : Int) ≤ (k : Int) := by omega
        have hi2 : (k : Int) ≤ (a : Int) + 4 := by omega
        have hi3 : (a : Int) + 4 ≤ (s.size : Int) := by omega
        have hi4 : (0 : Int) ≤ (a : Int) + 4 := by omega
        have hka2 : k < a := by omega
        clear hq hx0 hcut hst hra hra2 hka hsR
        generalize D.strB x ++ Q'.extract 0 4 = Y at *
        generalize D.cutS Q' 4 = Q2 at *
        generalize recB x = X at *
        have hw1 : IntKind.i64.wrap ((a : Int) + 4) = (a : Int) + 4 := IntWalk.i64_in _ (by omega)
        have hw2 : decide ((s.size : Int) < (a : Int) + 4) = false := by simpa using hgt
        have hw3 : ((a : Int) + 4).toNat = a + 4 := by omega
        go_wp2_with fail
        go_region_held3 (fun w' => w'.cell? ⟨b, 2, none⟩ = some (.int .i64 0) ∧ w'.cell? ⟨b, 1, none⟩ = some (.int .i64 a)) (first | exact ⟨c2, c1⟩ | exact ⟨c5, c4⟩ | go_keep)
            (first | (go_at_call 24; refine (hby.out _).out.mono ?_; rintro e w3 ⟨rfl, b3⟩; have c4 : w3.cell? ⟨b, 1, none⟩ = some (.int .i64 a) := (b3.cell (p := ⟨b, 1, none⟩) hlt2).trans c1; have c5 : w3.cell? ⟨b, 2, none⟩ = some (.int .i64 0) := (b3.cell (p := ⟨b, 2, none⟩) hlt2).trans c2; have ho3 := Lib.hid (own_below ho.out (show Below w2.heap.size w2 w3 from ⟨b3.os, b3.tape, b3.output, b3.size, b3.block⟩)); have br3 : Hid (Below w.heap.size w w3) := br2.out.trans (Below.mono (show Below w2.heap.size w2 w3 from ⟨b3.os, b3.tape, b3.output, b3.size, b3.block⟩) br2.out.size); have hsz3 := b3.size))
        have hlt3 : b < w3.heap.size := Nat.lt_of_lt_of_le hlt2 hsz3
        have hw03 : w.heap.size ≤ w3.heap.size := br3.out.size
        clear c1 c2 c5 ho br2 rf hby hw1 hw2 hw3 hne hsl hgt hi2 hi3 hi4 hsz3 hlt2 b3
        cases q
        · obtain ⟨rfl, rfl⟩ := scan_one pre l R Q (by rw [← hs2.out]; omega) (hno.out rfl) hQ0.out (hs2.out.symm.trans hl0.out)
          clear c4
          go_wp2_with fail
          go_ret2
          exact ⟨_, by rw [← hk.out]; rfl, ho3.out, br3.out⟩
        · replace hs3 := Lib.hid (hs3.out rfl)
          clear hno hs2 hk
          go_wp2_with (at_builtin; refine wpList_append_own _ rfl _ _ 37 rfl w.heap.size 9 i0 (.string ByteArray.empty) 1 16 Try.underlying37 hi hz0 hz1 hz2 rfl (by decide) _ _ _ rfl (ho3.out.alloc _) ⟨w3.heap.size, 0, none⟩ 1 1 [.string _] rfl rfl (one_new _ _) (one_cell _) (by unfold maxLen; omega) (by omega) (by simp; omega) ?_; intro v2 w4 ho4 hg4 _; have ho4 := Lib.hid ho4; have hg4 := Lib.hid hg4; have c6 : w4.cell? ⟨b, 1, none⟩ = some (.int .i64 a) := (World.cell?_of_block (w := w3) ((hg4.out.block b (by simp; omega) (fun e => hgb.out b e.symm rfl)).trans (Below.heap_alloc _ _ _ hlt3))).trans c4)
          have br4 : Hid (Below w.heap.size w w4) := (br3.out.alloc hw03 _).grown hg4.out (by simp; omega) (fun k hk => (ho3.out.lt k hk).1)
          clear hg4 br3 ho3 c4 c6
          refine ⟨⟨pre ++ [x], Q2, a + 4, hs3, hk3, by omega, by go_num, ?_, br4⟩, ?_⟩
          · show World.ownsRow _ _ _ _ _ (pre ++ [x]).length (strsOf (pre ++ [x]))
            rw [strsOf_snoc, List.length_append]
            exact ho4.out
          · simp [intOf]; omega
    · have hf' : ∀ t Q, R ≠ D.strB t ++ Q := fun t Q e => hf ⟨t, Q, e⟩
      have hx := str_no R 1099511627776 hf'
      have hno := noRec_no hf'
      have c2 := rf.c2
      clear hf hf' hra rf
      generalize (D.strS ⟨R, 0⟩ 1099511627776).2.e = y at *
      generalize (D.strS ⟨R, 0⟩ 1099511627776).1 = z at *
      have ex : (y != 0) = true := by simpa using hx
      replace hx := Lib.hid hx
      go_wp2_with fail
      go_quiet (fail)
      replace ho := Lib.hid (own_below ho.out (below_drewN (Below.refl _ _) nq))
      replace br2 := Lib.hid (below_drewN br2.out nq)
      clear c2
      generalize w2.drewN nq = w3 at *
      obtain ⟨rfl, rfl⟩ := scan_one pre l R Q (by rw [← hs2.out]; omega) hno hQ0.out (hs2.out.symm.trans hl0.out)
      go_wp2_with fail
      go_ret2
      exact ⟨_, by rw [← hk.out]; rfl, ho.out, br2.out⟩
end Go.Proofs.Ytdkdkkledlolcaa
