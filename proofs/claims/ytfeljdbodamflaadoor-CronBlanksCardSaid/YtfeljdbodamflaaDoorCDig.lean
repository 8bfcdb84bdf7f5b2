/-
  The program's twoDigits, aheadText, numbersText, anyText and daysText (layer 4).
-/
import Derived.Test.YtfeljdbodamflaaDoorCTab
import Derived.Test.YtfeljdbodamflaaDoorAny
import Derived.Test.YtfeljdbodamflaaDoorText
set_option linter.unusedVariables false
namespace Go.Proofs.YtfeljdbodamflaaDoor
open Go.RowKit Crn

theorem itoa_any (n : Nat) (w : World) (hn : n < 100) : Calls Tryd.prog 50 #[.int .i64 n] w fun e w' => e = .returned (.string (bs (num n))) ∧ w = w' := by
  refine (Tryd.strconv_Itoa_small n hn w).mono ?_
  rintro e w' ⟨rfl, rfl⟩
  exact ⟨by rw [Crn.digits_num n hn]; rfl, rfl⟩

theorem two_small : ∀ n, n < 10 → two n = 48 :: num n := by decide +kernel
theorem two_big {n : Nat} (h : 10 ≤ n) : num n = two n := if_pos h

set_option maxRecDepth 100000 in
theorem twoDigits_any (n : Nat) (w : World) (hn : n < 100) :
    Calls Tryd.prog 51 #[.int .i64 n] w fun e w' => e = .returned (.string (bs (two n))) ∧ w = w' := by
  have c := Lib.hid (itoa_any n w hn)
  have hsz : (bs (num n)).size ≤ 2 := by rw [bs_size]; exact num_len n
  by_cases h : n < 10
  · have hcat : Hid (bs [48] ++ bs (num n) = bs (two n)) := by rw [bs_append, two_small n h]; exact rfl
    generalize bs (num n) = T at *
    have hz : ¬ 9223372036854775807 < (bs [48]).size + T.size := by rw [bs_size]; simp; omega
    go_enter Tryd.func51, Tryd.ntmps51
    go_wp2_with fail
    refine c.out.mono ?_
    rintro e w' ⟨rfl, rfl⟩
    go_wp2_with fail
    go_ret
    exact ⟨by rw [← hcat.out]; rfl, rfl⟩
  · have hcat : Hid (bs (num n) = bs (two n)) := by rw [two_big (by omega)]; exact rfl
    generalize bs (num n) = T at *
    go_enter Tryd.func51, Tryd.ntmps51
    go_wp2_with fail
    refine c.out.mono ?_
    rintro e w' ⟨rfl, rfl⟩
    go_wp2_with fail
    go_ret
    exact ⟨by rw [← hcat.out]; rfl, rfl⟩

/-- The sixth field's text, without the blank ahead of it. -/
def aheadT (n : Int) : Bytes := if n < 0 then 45 :: (two ((-n).toNat / 60) ++ two ((-n).toNat % 60)) else 43 :: (two (n.toNat / 60) ++ two (n.toNat % 60))
theorem aheadT_text {n : Int} (h : n ≠ 0) : aheadText n = 32 :: aheadT n := by
  unfold aheadText aheadT
  by_cases h1 : 0 < n
  · rw [if_pos h1, if_neg (by omega)]; rfl
  · rw [if_neg h1, if_pos (by omega), if_pos (by omega)]; rfl
theorem two_len (n : Nat) : (two n).length = 2 := rfl

set_option maxRecDepth 100000 in
set_option maxHeartbeats 400000 in
theorem aheadText_core (m : Nat) (neg : Bool) (n : Int) (w : World) (hm : m ≤ 899) (hn : n = if neg then -(m : Int) else m) (hm0 : 0 < m) (g : UInt8) (hg : g = if neg then 45 else 43) :
    Calls Tryd.prog 33 #[.int .i64 n] w fun e w' => e = .returned (.string (bs (g :: (two (m / 60) ++ two (m % 60))))) ∧ w = w' := by
  have c1 := Lib.hid (twoDigits_any (m / 60) w (by omega))
  have c2 := Lib.hid (twoDigits_any (m % 60) w (by omega))
  have hcat : Hid (bs [g] ++ bs (two (m / 60)) ++ bs (two (m % 60)) = bs (g :: (two (m / 60) ++ two (m % 60)))) := by rw [bs_append, bs_append]; exact rfl
  have z1 : (bs (two (m / 60))).size = 2 := by rw [bs_size]; rfl
  have z2 : (bs (two (m % 60))).size = 2 := by rw [bs_size]; rfl
  rw [show ((m / 60 : Nat) : Int) = (m : Int) / 60 by omega] at c1
  rw [show ((m % 60 : Nat) : Int) = (m : Int) % 60 by omega] at c2
  generalize bs (two (m / 60)) = T1 at *
  generalize bs (two (m % 60)) = T2 at *
  have y1 : ¬ 9223372036854775807 < (bs [g]).size + T1.size := by rw [bs_size]; simp; omega
  have y2 : ¬ 9223372036854775807 < (bs [g] ++ T1).size + T2.size := by rw [ByteArray.size_append, bs_size]; simp; omega
  cases neg
  · obtain rfl : n = (m : Int) := hn
    obtain rfl : g = 43 := hg
    go_enter Tryd.func33, Tryd.ntmps33
    go_wp2_with fail
    refine c1.out.mono ?_
    rintro e w' ⟨rfl, rfl⟩
    go_wp2_with fail
    refine c2.out.mono ?_
    rintro e w' ⟨rfl, rfl⟩
    go_wp2_with fail
    go_ret
    exact ⟨by rw [← hcat.out]; rfl, rfl⟩
  · obtain rfl : n = -(m : Int) := hn
    obtain rfl : g = 45 := hg
    go_enter Tryd.func33, Tryd.ntmps33
    go_wp2_with fail
    refine c1.out.mono ?_
    rintro e w' ⟨rfl, rfl⟩
    go_wp2_with fail
    refine c2.out.mono ?_
    rintro e w' ⟨rfl, rfl⟩
    go_wp2_with fail
    go_ret
    exact ⟨by rw [← hcat.out]; rfl, rfl⟩

theorem aheadText_any (n : Int) (w : World) (h1 : -899 ≤ n) (h2 : n ≤ 899) (h0 : n ≠ 0) :
    Calls Tryd.prog 33 #[.int .i64 n] w fun e w' => e = .returned (.string (bs (aheadT n))) ∧ w = w' := by
  by_cases hn : n < 0
  · have := aheadText_core (-n).toNat true n w (by omega) (by simp; omega) (by omega) 45 rfl
    unfold aheadT
    rw [if_pos hn]
    exact this
  · have := aheadText_core n.toNat false n w (by omega) (by simp; omega) (by omega) 43 rfl
    unfold aheadT
    rw [if_neg hn]
    exact this

/-! Texts joined. -/
theorem join_any (v : Value) (l : List Bytes) (c : UInt8) (base : Nat) (w : World) (ho : w.ownsRow base 9 1 v l.length (strsOf l)) (hl : (join c l).length ≤ 10000) (hn : l.length ≤ 1000) :
    Calls Tryd.prog 34 #[v, .string ⟨#[c]⟩] w fun e w' => e = .returned (.string (bs (join c l))) ∧ Below w.heap.size w w' := by
  rcases ho.2 with ⟨rfl, h0⟩ | ⟨g, cap, cur, rfl, _, hg, hcap, _⟩
  · obtain rfl : l = [] := List.length_eq_zero_iff.1 h0
    refine (Tryd.strings_Join_none none 0 ⟨#[c]⟩ w).mono ?_
    rintro e w' ⟨rfl, rfl⟩
    exact ⟨rfl, Below.refl _ _⟩
  · have hx : (l.map bs).map (·.data.toList) = l := by
      rw [List.map_map]
      exact (List.map_congr_left (fun p _ => bs_toList p)).trans (List.map_id _)
    have hj : Lib.join ((l.map bs).map (·.data.toList)) (⟨#[c]⟩ : ByteArray).data.toList = join c l := by
      rw [hx]
      exact Crn.lib_join c l
    have key := Tryd.strings_Join g 0 cap (l.map bs) ⟨#[c]⟩ w (fun j x hjx => by
      have hc := ho.cells (g := g) rfl j (.string x) (by
        unfold strsOf
        rw [List.getElem?_map] at hjx ⊢
        cases hlj : l[j]? with
        | none => rw [hlj] at hjx; cases hjx
        | some q => rw [hlj] at hjx; cases hjx; rfl)
      have hadd : (⟨g, 0, none⟩ : Addr).add j = ⟨g, 0 + j, none⟩ := by unfold Addr.add; split <;> simp_all
      rw [hadd] at hc
      exact hc) (Array.getElem?_eq_some_iff.1 hg).1 (by simp; omega) (by simpa using hcap) (by rw [hj]; omega)
    rw [hj, List.length_map] at key
    exact key

set_option maxRecDepth 100000 in
set_option maxHeartbeats 400000 in
theorem numbersText_any (set : Nat) (w : World) (hs : set < 18446744073709551616) :
    Calls Tryd.prog 32 #[.int .u64 set] w fun e w' => e = .returned (.string (bs (list set))) ∧ Below w.heap.size w w' := by
  obtain ⟨i0, hi, hz0, hz1, hz2⟩ := info_parts Tryd.info9
  go_enter Tryd.func32, Tryd.ntmps32
  go_wp2_with fail
  go_loopw [3, 5] (fun v i wr => ∃ k : Nat, ∃ l : List Bytes, k ≤ 64 ∧ l.length ≤ k ∧ i = .int .i64 k ∧ Hid (l = (upTo set k).map num) ∧ Hid (wr.ownsRow w.heap.size 9 1 v l.length (strsOf l)) ∧ Hid (Below w.heap.size w wr)) (fun _ i _ => 64 - (intOf i).toNat)
  case atStart => exact ⟨0, [], by omega, Nat.le_refl _, rfl, rfl, World.ownsRow_nil _ _ _ _, Below.refl _ _⟩
  case round =>
    obtain ⟨k, l, hk, hll, rfl, hl, ho, hb⟩ := hrel
    by_cases hlt : k < 64
    · have ch := Lib.hid (setHas_any set (k : Int) wr hs (by omega) (by omega))
      have hh : has set (k : Int) = set.testBit k := by
        unfold has
        rw [Int.toNat_natCast, show decide (0 ≤ (k : Int) ∧ (k : Int) ≤ 63) = true by simp; omega]
        exact Bool.true_and _
      rw [hh] at ch
      clear hh
      cases htb : set.testBit k
      · rw [htb] at ch
        have hn : Hid (l = (upTo set (k + 1)).map num) := by rw [upTo_no htb]; exact hl
        clear htb
        go_wp2_with fail
        refine ch.out.mono ?_
        rintro e w' ⟨rfl, rfl⟩
        go_wp2_with fail
        exact ⟨⟨k + 1, l, by omega, by omega, by go_num, hn, ho, hb⟩, by simp [intOf]; omega⟩
      · rw [htb] at ch
        have hn : Hid (l ++ [num k] = (upTo set (k + 1)).map num) := by rw [upTo_yes htb, List.map_append, ← hl.out]; exact rfl
        have ci := Lib.hid (itoa_any k wr (by omega))
        have hTT : Hid (strsOf l ++ [.string (bs (num k))] = strsOf (l ++ [num k])) := (strsOf_snoc l (num k)).symm
        generalize bs (num k) = T at *
        clear htb
        go_wp2_with fail
        refine ch.out.mono ?_
        rintro e w' ⟨rfl, rfl⟩
        go_wp2_with fail
        refine ci.out.mono ?_
        rintro e w' ⟨rfl, rfl⟩
        go_wp2_with (at_builtin; refine wpList_append_own _ rfl _ _ 41 rfl w.heap.size 9 i0 (.string ByteArray.empty) 1 16 Tryd.underlying41 hi hz0 hz1 hz2 rfl (by decide) _ _ _ rfl (ho.out.alloc _) ⟨wr.heap.size, 0, none⟩ 1 1 [.string _] rfl rfl (one_new _ _) (one_cell _) (by unfold maxLen; omega) (by omega) (by have := hb.out.size; simp; omega) ?_; intro v2 w2 ho2 hg2 _; have ho2 := Lib.hid ho2; have hg2 := Lib.hid hg2)
        refine ⟨⟨k + 1, l ++ [num k], by omega, by simp; omega, by go_num, hn, ?_, ?_⟩, by simp [intOf]; omega⟩
        · rw [← hTT.out, List.length_append]; exact ho2.out
        · exact (hb.out.alloc hb.out.size _).grown hg2.out (by have := hb.out.size; simp; omega) (fun k hk => (ho.out.lt k hk).1)
    · obtain rfl : k = 64 := by omega
      have hjl : Hid (join 44 l = list set) := by rw [hl.out]; exact rfl
      have cj := join_any u3 l 44 w.heap.size wr ho.out (by rw [hjl.out]; have := list_len set; omega) (by omega)
      rw [hjl.out] at cj
      replace cj := Lib.hid cj
      go_wp2_with fail
      refine cj.out.mono ?_
      rintro e w2 ⟨rfl, k2⟩
      replace k2 := Lib.hid k2
      go_wp2_with fail
      go_ret
      exact ⟨rfl, hb.out.trans (k2.out.mono hb.out.size)⟩

/-! Days that are any. -/
theorem every_span : ∀ f, f = 2 ∨ f = 4 → ∀ st, st < 100 → 1 ≤ st → bitsN 0 (low f) (top f) st = every f st := by
  rintro f (rfl | rfl)
  · decide +kernel
  · decide +kernel
theorem stepOf_none {f set k n : Nat} (h : ∀ j, n ≤ j → j < n + k → set ≠ every f j) : stepOf f set k n = none := by
  induction k generalizing n with
  | zero => rfl
  | succ k ih =>
    unfold stepOf
    rw [if_neg (h n (Nat.le_refl _) (by omega))]
    exact ih (fun j a b => h j (by omega) (by omega))
theorem stepOf_at {f set k n j : Nat} (h1 : n ≤ j) (h2 : j < n + k) (he : set = every f j) (h : ∀ i, n ≤ i → i < j → set ≠ every f i) : stepOf f set k n = some j := by
  induction k generalizing n with
  | zero => omega
  | succ k ih =>
    unfold stepOf
    by_cases e : n = j
    · subst e
      rw [if_pos he]
    · rw [if_neg (h n (Nat.le_refl _) (by omega))]
      exact ih (by omega) (by omega) (fun i a b => h i (by omega) b)
theorem any_hit {f set j : Nat} (hf : f = 2 ∨ f = 4) (h1 : 2 ≤ j) (h2 : j ≤ 99) (he : set = every f j) (h : ∀ i, 1 ≤ i → i < j → set ≠ every f i) : anyText f set = [42, 47] ++ num j := by
  have hlt : j < 64 := by
    rcases Nat.lt_or_ge j 64 with h' | h'
    · exact h'
    · exact absurd (he.trans (every_far f hf j (by omega) h')) (h 63 (by omega) (by omega))
  unfold anyText
  rw [if_neg (h 1 (Nat.le_refl _) (by omega)), stepOf_at (by omega) (by omega) he h]
  simp only []
  rw [list_pow j hlt]
theorem any_miss {f set : Nat} (h : ∀ i, 1 ≤ i → i < 100 → set ≠ every f i) : anyText f set = [] := by
  unfold anyText
  rw [if_neg (h 1 (Nat.le_refl _) (by omega)), stepOf_none (fun j a b => h j a (by omega))]

set_option maxRecDepth 100000 in
set_option maxHeartbeats 400000 in
theorem cAnyText_any (f set : Nat) (w : World) (hf : f = 2 ∨ f = 4) (hs : set < 18446744073709551616) :
    Calls Tryd.prog 49 #[.int .u64 set, spanV (low f) (top f)] w fun e w' => e = .returned (.string (bs (anyText f set))) ∧ Below w.heap.size w w' := by
  have hf5 : f < 5 := by omega
  have hlow : low f ≤ 1 := by unfold low; split <;> omega
  have htop : top f ≤ 59 := by
    have : ∀ f, f < 5 → top f ≤ 59 := by decide
    exact this f hf5
  have Ce : Hid (∀ st W, 1 ≤ st → st ≤ 99 → Calls Tryd.prog 28 #[spanV (low f) (top f), .int .i64 (st : Nat)] W fun e w' => e = .returned (.int .u64 (every f st : Nat)) ∧ Below W.heap.size W w') := fun st W h1 h2 => by
    have := every_any (low f) (top f) st W (by omega) (by omega) h1 h2
    rw [every_span f hf st (by omega) h1] at this
    exact this
  have hhit : Hid (∀ j, 2 ≤ j → j ≤ 99 → set = every f j → (∀ i, 1 ≤ i → i < j → set ≠ every f i) → anyText f set = [42, 47] ++ num j) := fun j h1 h2 he h => any_hit hf h1 h2 he h
  have hmiss : Hid ((∀ i, 1 ≤ i → i < 100 → set ≠ every f i) → anyText f set = []) := fun h => any_miss h
  have hone : Hid (set = every f 1 → anyText f set = star) := fun h => if_pos h
  have hel : Hid (∀ st, 1 ≤ st → every f st < 18446744073709551616) := fun st h => every_lt' f st hf5 h
  have hb1 := (Below.refl w.heap.size w).alloc (Nat.le_refl _) (.cells #[.int .i64 (low f : Nat), .int .i64 (top f : Nat)] 52)
  have cA : (w.alloc (.cells #[.int .i64 (low f : Nat), .int .i64 (top f : Nat)] 52)).cell? ⟨w.heap.size, 0, none⟩ = some (.int .i64 (low f : Nat)) := by rw [World.cell?_alloc_new]; rfl
  have cB : (w.alloc (.cells #[.int .i64 (low f : Nat), .int .i64 (top f : Nat)] 52)).cell? ⟨w.heap.size, 1, none⟩ = some (.int .i64 (top f : Nat)) := by rw [World.cell?_alloc_new]; rfl
  have hwz : w.heap.size < (w.alloc (.cells #[.int .i64 (low f : Nat), .int .i64 (top f : Nat)] 52)).heap.size := by simp
  generalize anyText f set = res at *
  unfold spanV at *
  generalize low f = lo at *
  generalize top f = hi at *
  have c1 := Lib.hid (Ce.out 1 (w.alloc (.cells #[.int .i64 (lo : Nat), .int .i64 (hi : Nat)] 52)) (by omega) (by omega))
  have hev := hel.out 1 (by omega)
  by_cases h1 : set = every f 1
  · have e1 : ((set : Int) == (every f 1 : Nat)) = true := by rw [← h1]; simp
    have hr := Lib.hid (hone.out h1)
    clear h1 cA cB
    replace hb1 := Lib.hid hb1
    generalize every f 1 = E at *
    go_enter Tryd.func49, Tryd.ntmps49
    go_wp2_with fail
    refine c1.out.mono ?_
    rintro e w1 ⟨rfl, k1⟩
    replace k1 := Lib.hid k1
    go_wp2_with fail
    go_ret
    exact ⟨by rw [hr.out]; rfl, hb1.out.trans (k1.out.mono hb1.out.size)⟩
  · have e1 : ((set : Int) == (every f 1 : Nat)) = false := by simp; omega
    have hn1 := Lib.hid h1
    clear h1
    generalize hE : every f 1 = E at *
    replace hE := Lib.hid hE
    replace hb1 := Lib.hid hb1
    have hst1 : Hid (∀ j, 1 ≤ j → j < 2 → set ≠ every f j) := fun j a b => by
      have : j = 1 := by omega
      rw [this, hE.out]
      exact hn1.out
    have hcA := Lib.hid cA
    have hcB := Lib.hid cB
    clear cA cB
    go_enter Tryd.func49, Tryd.ntmps49
    go_wp2_with fail
    refine c1.out.mono ?_
    rintro e w1 ⟨rfl, k1⟩
    have kA := Lib.hid ((k1.cell (p := ⟨w.heap.size, 0, none⟩) hwz).trans hcA.out)
    have kB := Lib.hid ((k1.cell (p := ⟨w.heap.size, 1, none⟩) hwz).trans hcB.out)
    have kb := Lib.hid (hb1.out.trans (k1.mono hb1.out.size))
    clear k1 c1 hcA hcB hb1 hwz
    go_wp2_with fail
    clear e1
    go_loopw [5] (fun i wr => ∃ k : Nat, 2 ≤ k ∧ k ≤ 100 ∧ i = .int .i64 k ∧ Hid (∀ j, 1 ≤ j → j < k → set ≠ every f j) ∧ Hid (wr.cell? ⟨w.heap.size, 0, none⟩ = some (.int .i64 lo)) ∧ Hid (wr.cell? ⟨w.heap.size, 1, none⟩ = some (.int .i64 hi)) ∧ Hid (Below w.heap.size w wr)) (fun i _ => 100 - (intOf i).toNat)
    case atStart => exact ⟨2, by omega, by omega, rfl, hst1, kA, kB, kb⟩
    case round =>
      obtain ⟨k, hk1, hk, rfl, hno, hA, hB, hb⟩ := hrel
      clear kA kB kb hst1
      by_cases hlt : k < 100
      · have ca := Lib.hid (Ce.out k wr (by omega) (by omega))
        have hev2 := hel.out k (by omega)
        have qA := hA.out
        have qB := hB.out
        have hwl := World.block_lt_of_cell? wr _ qA
        by_cases he : set = every f k
        · have e2 : ((set : Int) == (every f k : Nat)) = true := by rw [← he]; simp
          have hr2 := Lib.hid (hhit.out k hk1 (by omega) he hno.out)
          have ci := Lib.hid (fun W => itoa_any k W (by omega))
          have hll : (bs (num k)).size ≤ 2 := by rw [bs_size]; exact num_len k
          have hfin : Hid (bs [42, 47] ++ bs (num k) = bs res) := by rw [bs_append, hr2.out]; exact rfl
          generalize bs (num k) = T at *
          clear hr2
          clear he
          generalize every f k = E2 at *
          have hz : ¬ 9223372036854775807 < (bs [42, 47]).size + T.size := by rw [bs_size]; simp; omega
          go_wp2_with fail
          refine ca.out.mono ?_
          rintro e w2 ⟨rfl, k2⟩
          have b2 := Lib.hid (hb.out.trans (k2.mono hb.out.size))
          clear k2
          go_wp2_with fail
          refine (ci.out _).mono ?_
          rintro e w' ⟨rfl, rfl⟩
          go_wp2_with fail
          go_ret
          exact ⟨by rw [← hfin.out]; rfl, b2.out⟩
        · have e2 : ((set : Int) == (every f k : Nat)) = false := by simp; omega
          have hn : Hid (∀ j, 1 ≤ j → j < k + 1 → set ≠ every f j) := fun j a b => by
            by_cases e : j = k
            · rw [e]; exact he
            · exact hno.out j a (by omega)
          clear he
          generalize every f k = E2 at *
          go_wp2_with fail
          refine ca.out.mono ?_
          rintro e w2 ⟨rfl, k2⟩
          have b2 := Lib.hid (hb.out.trans (k2.mono hb.out.size))
          have kA := Lib.hid ((k2.cell (p := ⟨w.heap.size, 0, none⟩) hwl).trans hA.out)
          have kB := Lib.hid ((k2.cell (p := ⟨w.heap.size, 1, none⟩) hwl).trans hB.out)
          clear k2 qA qB hA hB
          go_wp2_with fail
          exact ⟨⟨k + 1, by omega, by omega, by go_num, hn, kA, kB, b2⟩, by simp [intOf]; omega⟩
      · obtain rfl : k = 100 := by omega
        have hr2 := Lib.hid (hmiss.out hno.out)
        go_wp2_with fail
        go_ret
        exact ⟨by rw [hr2.out]; rfl, hb.out⟩

set_option maxRecDepth 100000 in
set_option maxHeartbeats 400000 in
theorem daysText_any (f set : Nat) (any : Bool) (w : World) (hf : f = 2 ∨ f = 4) (hs : set < 18446744073709551616) :
    Calls Tryd.prog 31 #[.int .u64 set, .bool any, spanV (low f) (top f)] w fun e w' => e = .returned (.string (bs (fieldText f set any))) ∧ Below w.heap.size w w' := by
  have ca := Lib.hid (fun W => cAnyText_any f set W hf hs)
  have cn := Lib.hid (fun W => numbersText_any set W hs)
  have hb1 := Lib.hid ((Below.refl w.heap.size w).alloc (Nat.le_refl _) (.cells #[.int .i64 (low f : Nat), .int .i64 (top f : Nat)] 52))
  unfold spanV at *
  unfold fieldText
  generalize low f = lo at *
  generalize top f = hi at *
  cases any
  · generalize bs (anyText f set) = TA at *
    simp only [Bool.false_eq_true, if_false]
    generalize bs (list set) = TL at *
    go_enter Tryd.func31, Tryd.ntmps31
    go_wp2_with fail
    refine (cn.out _).mono ?_
    rintro e w2 ⟨rfl, k2⟩
    replace k2 := Lib.hid k2
    go_wp2_with fail
    go_ret
    exact ⟨rfl, hb1.out.trans (k2.out.mono hb1.out.size)⟩
  · simp only [if_true]
    generalize bs (anyText f set) = TA at *
    go_enter Tryd.func31, Tryd.ntmps31
    go_wp2_with fail
    refine (ca.out _).mono ?_
    rintro e w2 ⟨rfl, k2⟩
    replace k2 := Lib.hid k2
    go_wp2_with fail
    go_ret
    exact ⟨rfl, hb1.out.trans (k2.out.mono hb1.out.size)⟩
end Go.Proofs.YtfeljdbodamflaaDoor
