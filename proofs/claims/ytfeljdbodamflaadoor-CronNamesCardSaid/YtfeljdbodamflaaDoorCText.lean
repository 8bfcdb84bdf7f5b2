/-
  The program's Text (layer 4).
-/
import Derived.Test.YtfeljdbodamflaaDoorCRight
import Derived.Test.YtfeljdbodamflaaDoorCDig
import Derived.Deep.RegionHeld3
import Derived.Deep.DeepCutAuto
set_option linter.unusedVariables false
namespace Go.Proofs.YtfeljdbodamflaaDoor
open Go.RowKit Crn

/-- The cells of a spec's copy. -/
structure Box (g : Nat) (wr : World) (x0 x1 x2 x3 x4 : Nat) (x5 x6 : Bool) (x7 : Int) : Prop where
  c0 : wr.cell? ⟨g, 0, none⟩ = some (.int .u64 x0)
  c1 : wr.cell? ⟨g, 1, none⟩ = some (.int .u64 x1)
  c2 : wr.cell? ⟨g, 2, none⟩ = some (.int .u64 x2)
  c3 : wr.cell? ⟨g, 3, none⟩ = some (.int .u64 x3)
  c4 : wr.cell? ⟨g, 4, none⟩ = some (.int .u64 x4)
  c5 : wr.cell? ⟨g, 5, none⟩ = some (.bool x5)
  c6 : wr.cell? ⟨g, 6, none⟩ = some (.bool x6)
  c7 : wr.cell? ⟨g, 7, none⟩ = some (.int .i64 x7)
theorem Box.step {g : Nat} {wr w' : World} {x0 x1 x2 x3 x4 : Nat} {x5 x6 : Bool} {x7 : Int} (h : Box g wr x0 x1 x2 x3 x4 x5 x6 x7) (k : Below wr.heap.size wr w') : Box g w' x0 x1 x2 x3 x4 x5 x6 x7 := by
  have h1 := World.block_lt_of_cell? wr _ h.c0
  exact ⟨(k.cell (p := ⟨g, 0, none⟩) h1).trans h.c0, (k.cell (p := ⟨g, 1, none⟩) h1).trans h.c1, (k.cell (p := ⟨g, 2, none⟩) h1).trans h.c2, (k.cell (p := ⟨g, 3, none⟩) h1).trans h.c3, (k.cell (p := ⟨g, 4, none⟩) h1).trans h.c4, (k.cell (p := ⟨g, 5, none⟩) h1).trans h.c5, (k.cell (p := ⟨g, 6, none⟩) h1).trans h.c6, (k.cell (p := ⟨g, 7, none⟩) h1).trans h.c7⟩
theorem Box.start (w : World) (x0 x1 x2 x3 x4 : Nat) (x5 x6 : Bool) (x7 : Int) : Box w.heap.size (w.alloc (.cells #[.int .u64 x0, .int .u64 x1, .int .u64 x2, .int .u64 x3, .int .u64 x4, .bool x5, .bool x6, .int .i64 x7] 25)) x0 x1 x2 x3 x4 x5 x6 x7 := by
  refine ⟨?_, ?_, ?_, ?_, ?_, ?_, ?_, ?_⟩
  all_goals (rw [World.cell?_alloc_new]; rfl)
theorem own_new (W : World) (base n : Nat) (cur : Array Value) (hb : base ≤ W.heap.size) (hn : cur.size = n) (hm : n ≤ 1000) : (W.alloc (.cells cur 9)).ownsRow base 9 1 (.slice (some ⟨W.heap.size, 0, none⟩) n n) n cur.toList := by
  refine ⟨by simp [hn], Or.inr ⟨W.heap.size, n, cur, rfl, hb, Go.heap_alloc_new W _, Nat.le_refl _, by unfold maxLen; omega, by omega, ?_⟩⟩
  rw [List.take_of_length_le (by simp; omega)]
theorem join_five_len (t0 t1 t2 t3 t4 : Bytes) (h0 : t0.length ≤ 194) (h1 : t1.length ≤ 194) (h2 : t2.length ≤ 194) (h3 : t3.length ≤ 194) (h4 : t4.length ≤ 194) : (join 32 [t0, t1, t2, t3, t4]).length ≤ 975 := by
  simp only [join, List.length_append, List.length_cons]
  omega
theorem aheadT_len (n : Int) : (aheadT n).length = 5 := by
  unfold aheadT
  split <;> rfl
theorem right_texts {x : SpecN} (h : right x = true) (k : Nat) (hk : k = 0 ∨ k = 1 ∨ k = 3) : fieldT x k ≠ [] := by
  obtain ⟨h0, h1, _, h3, _⟩ := right_parts h
  rcases hk with rfl | rfl | rfl
  · exact list_ne (by omega) h0
  · exact list_ne (by omega) h1
  · exact list_ne (by omega) h3

set_option maxRecDepth 100000 in
set_option maxHeartbeats 2000000 in
theorem cText_any (x : SpecN) (hx : Fits x) (w : World) (tb : Tab w) :
    Calls Tryd.prog 15 #[specV x] w fun e w' => e = .returned (.string (bs (text x))) ∧ Below w.heap.size w w' := by
  have Cr := Lib.hid (fun W tb => cRight_any x hx W tb)
  have t1 : Hid (right x = false → text x = []) := fun h => text_wrong h
  have t2 : Hid (right x = true → ∀ k, k < 5 → fieldT x k = [] → text x = []) := fun h k hk ht => text_none h hk ht
  have t3 : Hid (right x = true → fieldT x 2 ≠ [] → fieldT x 4 ≠ [] → text x = join 32 [fieldT x 0, fieldT x 1, fieldT x 2, fieldT x 3, fieldT x 4] ++ aheadText x.ahead) := fun h h2 h4 => by
    rw [← headT_five]
    exact text_all h (fun k hk => by
      have : k = 0 ∨ k = 1 ∨ k = 2 ∨ k = 3 ∨ k = 4 := by omega
      rcases this with rfl | rfl | rfl | rfl | rfl
      · exact right_texts h 0 (by omega)
      · exact right_texts h 1 (by omega)
      · exact h2
      · exact right_texts h 3 (by omega)
      · exact h4)
  have hbnd : Hid (right x = true → -899 ≤ x.ahead ∧ x.ahead ≤ 899) := fun h => (right_parts h).2.2.2.2.2
  have hfl := Lib.hid (fieldT_len x)
  have cl0 : Hid (∀ W, Calls Tryd.prog 32 #[.int .u64 x.min] W fun e w' => e = .returned (.string (bs (fieldT x 0))) ∧ Below W.heap.size W w') := fun W => numbersText_any x.min W hx.min
  have cl1 : Hid (∀ W, Calls Tryd.prog 32 #[.int .u64 x.hour] W fun e w' => e = .returned (.string (bs (fieldT x 1))) ∧ Below W.heap.size W w') := fun W => numbersText_any x.hour W hx.hour
  have cl3 : Hid (∀ W, Calls Tryd.prog 32 #[.int .u64 x.mon] W fun e w' => e = .returned (.string (bs (fieldT x 3))) ∧ Below W.heap.size W w') := fun W => numbersText_any x.mon W hx.mon
  have cd2 : Hid (∀ W, Calls Tryd.prog 31 #[.int .u64 x.dom, .bool x.anyDom, .agg #[.int .i64 1, .int .i64 31]] W fun e w' => e = .returned (.string (bs (fieldT x 2))) ∧ Below W.heap.size W w') := fun W => daysText_any 2 x.dom x.anyDom W (Or.inl rfl) hx.dom
  have cd4 : Hid (∀ W, Calls Tryd.prog 31 #[.int .u64 x.dow, .bool x.anyDow, .agg #[.int .i64 0, .int .i64 6]] W fun e w' => e = .returned (.string (bs (fieldT x 4))) ∧ Below W.heap.size W w') := fun W => daysText_any 4 x.dow x.anyDow W (Or.inr rfl) hx.dow
  generalize text x = res at *
  generalize right x = rt at *
  generalize fieldT x = t at *
  obtain ⟨x0, x1, x2, x3, x4, x5, x6, x7⟩ := x
  simp only [specV, cellsN] at *
  have tb1 := Lib.hid (tb.alloc (.cells #[.int .u64 x0, .int .u64 x1, .int .u64 x2, .int .u64 x3, .int .u64 x4, .bool x5, .bool x6, .int .i64 x7] 25))
  have B1 := Lib.hid (Box.start w x0 x1 x2 x3 x4 x5 x6 x7)
  have b1 := Lib.hid ((Below.refl w.heap.size w).alloc (Nat.le_refl _) (.cells #[.int .u64 x0, .int .u64 x1, .int .u64 x2, .int .u64 x3, .int .u64 x4, .bool x5, .bool x6, .int .i64 x7] 25))
  have cr := Lib.hid (Cr.out _ tb1.out)
  clear tb Cr
  go_enter Tryd.func15, Tryd.ntmps15
  go_wp2_with fail
  refine cr.out.mono ?_
  rintro e w1 ⟨rfl, k1⟩
  have tb2 := Lib.hid (tb1.out.below k1)
  have B2 := Lib.hid (B1.out.step k1)
  have b2 := Lib.hid (b1.out.trans (k1.mono b1.out.size))
  clear k1 tb1 B1 b1 cr
  cases rt with
  | false =>
    have hres := Lib.hid (t1.out rfl)
    go_wp2_with fail
    go_ret
    exact ⟨by rw [hres.out]; rfl, b2.out⟩
  | true =>
    have T2 := Lib.hid (t2.out (by trivial))
    have T3 := Lib.hid (t3.out (by trivial))
    have Hb := Lib.hid (hbnd.out (by trivial))
    clear t1 t2 t3 hbnd
    have q2 := B2.out.c2
    have q5 := B2.out.c5
    have s4 : w1.cell? ⟨0, 4, none⟩ = some (.int .i64 1) := (tb2.out.spans 2 (by omega)).1
    have s5 : w1.cell? ⟨0, 5, none⟩ = some (.int .i64 31) := (tb2.out.spans 2 (by omega)).2
    go_wp2_with fail
    refine (cd2.out _).mono ?_
    rintro e w2 ⟨rfl, k2⟩
    have tb3 := Lib.hid (tb2.out.below k2)
    have B3 := Lib.hid (B2.out.step k2)
    have b3 := Lib.hid (b2.out.trans (k2.mono b2.out.size))
    clear k2 tb2 B2 b2 q2 q5 s4 s5 cd2
    have q4 := B3.out.c4
    have q6 := B3.out.c6
    have s8 : w2.cell? ⟨0, 8, none⟩ = some (.int .i64 0) := (tb3.out.spans 4 (by omega)).1
    have s9 : w2.cell? ⟨0, 9, none⟩ = some (.int .i64 6) := (tb3.out.spans 4 (by omega)).2
    go_wp2_with fail
    refine (cd4.out _).mono ?_
    rintro e w3 ⟨rfl, k3⟩
    have tb4 := Lib.hid (tb3.out.below k3)
    have B4 := Lib.hid (B3.out.step k3)
    have b4 := Lib.hid (b3.out.trans (k3.mono b3.out.size))
    clear k3 tb3 B3 b3 q4 q6 s8 s9 cd4
    have hie2 : (bs (t 2)).toList.isEmpty = (t 2).isEmpty := by rw [ByteArray.toList_eq, bs_toList]
    have hie4 : (bs (t 4)).toList.isEmpty = (t 4).isEmpty := by rw [ByteArray.toList_eq, bs_toList]
    have hst : Hid (strsOf [t 0, t 1, t 2, t 3, t 4] = [.string (bs (t 0)), .string (bs (t 1)), .string (bs (t 2)), .string (bs (t 3)), .string (bs (t 4))]) := rfl
    have hte2 : Hid (t 2 = [] ↔ (t 2).isEmpty = true) := by cases t 2 <;> simp <;> exact trivial
    have hte4 : Hid (t 4 = [] ↔ (t 4).isEmpty = true) := by cases t 4 <;> simp <;> exact trivial
    generalize bs (t 0) = S0 at *
    generalize bs (t 1) = S1 at *
    generalize bs (t 2) = S2 at *
    generalize bs (t 3) = S3 at *
    generalize bs (t 4) = S4 at *
    cases hem2 : (t 2).isEmpty
    · rw [hem2] at hie2
      have hne2 : Hid (t 2 ≠ []) := fun e => by have := hte2.out.1 e; rw [hem2] at this; cases this
      clear hem2 hte2
      cases hem4 : (t 4).isEmpty
      · rw [hem4] at hie4
        have hne4 : Hid (t 4 ≠ []) := fun e => by have := hte4.out.1 e; rw [hem4] at this; cases this
        clear hem4 hte4
        have hres := Lib.hid (T3.out hne2.out hne4.out)
        clear T2 T3 hne2 hne4
        have hsz3 : w.heap.size ≤ w3.heap.size := b4.out.size
        have hS : Hid (∀ W, Below w3.heap.size w3 W → W.cell? ⟨w.heap.size, 0, none⟩ = some (.int .u64 x0) ∧ W.cell? ⟨w.heap.size, 1, none⟩ = some (.int .u64 x1) ∧ W.cell? ⟨w.heap.size, 3, none⟩ = some (.int .u64 x3)) := fun W k => ⟨(B4.out.step k).c0, (B4.out.step k).c1, (B4.out.step k).c3⟩
        have hcA := hS.out _ (Below.refl _ _)
        have hcB := hS.out w3.drew (Below.refl _ _).drew
        have q0 := hcA.1
        have q1 := hcA.2.1
        have q3 := hcA.2.2
        go_upto_region 7 with fail
        go_cut [5] from 29 (fun v wc => ∃ g, v = .slice (some ⟨g, 0, none⟩) 5 5 ∧ Hid (wc.ownsRow w.heap.size 9 1 (.slice (some ⟨g, 0, none⟩) 5 5) 5 [.string S0, .string S1, .string S2, .string S3, .string S4]) ∧ Hid (Box w.heap.size wc x0 x1 x2 x3 x4 x5 x6 x7) ∧ Hid (Below w.heap.size w wc))
        case first =>
          have hb : Hid (Below w3.heap.size w3 w3.drew) := (Below.refl _ _).drew
          clear hst hres
          go_region_held3 (fun w' => w'.cell? ⟨w.heap.size, 0, none⟩ = some (.int .u64 x0) ∧ w'.cell? ⟨w.heap.size, 1, none⟩ = some (.int .u64 x1) ∧ w'.cell? ⟨w.heap.size, 3, none⟩ = some (.int .u64 x3)) (first | (with_reducible exact hc6) | (with_reducible exact hcB) | (with_reducible exact hcA) | go_keep)
            (first
              | (go_at_call 32; (with_reducible refine (cl0.out _).mono ?_); rintro e w6 ⟨rfl, k6⟩; replace hb := Lib.hid (hb.out.trans (k6.mono hb.out.size)); have hc6 := hS.out _ hb.out; clear k6)
              | (go_at_call 32; (with_reducible refine (cl1.out _).mono ?_); rintro e w6 ⟨rfl, k6⟩; replace hb := Lib.hid (hb.out.trans (k6.mono hb.out.size)); have hc6 := hS.out _ hb.out; clear k6)
              | (go_at_call 32; (with_reducible refine (cl3.out _).mono ?_); rintro e w6 ⟨rfl, k6⟩; replace hb := Lib.hid (hb.out.trans (k6.mono hb.out.size)); have hc6 := hS.out _ hb.out; clear k6))
          all_goals
            go_wp2_with fail
            go_meet
            refine ⟨_, rfl, own_new _ w.heap.size 5 _ (Nat.le_trans hsz3 hb.out.size) rfl (by omega), B4.out.step (hb.out.alloc hb.out.size _), b4.out.trans ((hb.out.alloc hb.out.size _).mono hsz3)⟩
        case rest =>
          obtain ⟨g, rfl, ho, B5, b5⟩ := hcut
          clear hS hcA hcB q0 q1 q3 B4 b4 tb4 hsz3
          have q7 := B5.out.c7
          obtain ⟨hb1, hb2⟩ := Hb.out
          have hjl : Hid ((join 32 [t 0, t 1, t 2, t 3, t 4]).length ≤ 975) := join_five_len _ _ _ _ _ (hfl.out 0) (hfl.out 1) (hfl.out 2) (hfl.out 3) (hfl.out 4)
          rw [← hst.out] at ho
          by_cases h0 : x7 = 0
          · have cj := join_any _ [t 0, t 1, t 2, t 3, t 4] 32 w.heap.size wc ho.out (by have := hjl.out; omega) (by simp)
            have hres2 : Hid (res = join 32 [t 0, t 1, t 2, t 3, t 4]) := by
              rw [hres.out, h0]
              exact List.append_nil _
            rw [← hres2.out] at cj
            replace cj := Lib.hid cj
            have e0 : (x7 != 0) = false := by simp [h0]
            clear h0
            go_wp2_with fail
            refine cj.out.mono ?_
            rintro e w7 ⟨rfl, k7⟩
            replace k7 := Lib.hid k7
            go_wp2_with fail
            go_ret
            exact ⟨rfl, b5.out.trans (k7.out.mono b5.out.size)⟩
          · have hres2 : Hid (res = join 32 ([t 0, t 1, t 2, t 3, t 4] ++ [aheadT x7])) := by
              rw [hres.out, aheadT_text h0, join_snoc _ _ _ (by simp)]
              exact rfl
            have ca := Lib.hid (aheadText_any x7 wc hb1 hb2 h0)
            have hjl2 : Hid (res.length ≤ 1000) := by
              rw [hres.out, aheadT_text h0]
              have := hjl.out
              have := aheadT_len x7
              simp only [Hid, List.length_append, List.length_cons]
              omega
            have e0 : (x7 != 0) = true := by simp [h0]
            clear h0 hres
            obtain ⟨i0, hi, hz0, hz1, hz2⟩ := info_parts Tryd.info9
            have hsn : Hid (strsOf [t 0, t 1, t 2, t 3, t 4] ++ [.string (bs (aheadT x7))] = strsOf ([t 0, t 1, t 2, t 3, t 4] ++ [aheadT x7])) := (strsOf_snoc _ _).symm
            generalize strsOf [t 0, t 1, t 2, t 3, t 4] = L5 at *
            generalize bs (aheadT x7) = T at *
            go_wp2_with fail
            refine ca.out.mono ?_
            rintro e w' ⟨rfl, rfl⟩
            go_upto_region 10 with (at_builtin; refine wpList_append_own _ rfl _ _ 41 rfl w.heap.size 9 i0 (.string ByteArray.empty) 1 16 Tryd.underlying41 hi hz0 hz1 hz2 rfl (by decide) _ _ _ rfl (ho.out.alloc _) ⟨wc.heap.size, 0, none⟩ 1 1 [.string _] rfl rfl (one_new _ _) (one_cell _) (by unfold maxLen; omega) (by omega) (by have := b5.out.size; simp; omega) ?_; intro v2 w2 ho2 hg2 _; have ho2 := Lib.hid ho2; have hg2 := Lib.hid hg2)
            have b6 := Lib.hid ((b5.out.alloc b5.out.size _).grown hg2.out (by have := b5.out.size; simp; omega) (fun k hk => (ho.out.lt k hk).1))
            have cj := join_any v2 ([t 0, t 1, t 2, t 3, t 4] ++ [aheadT x7]) 32 w.heap.size w2 (by rw [← hsn.out]; exact ho2.out) (by rw [← hres2.out]; have := hjl2.out; omega) (by simp)
            rw [← hres2.out] at cj
            replace cj := Lib.hid cj
            go_wp2_with fail
            refine cj.out.mono ?_
            rintro e w7 ⟨rfl, k7⟩
            replace k7 := Lib.hid k7
            go_wp2_with fail
            go_ret
            exact ⟨rfl, b6.out.trans (k7.out.mono b6.out.size)⟩
      · rw [hem4] at hie4
        have hres := Lib.hid (T2.out 4 (by omega) (hte4.out.2 hem4))
        clear hem4 hte4
        go_wp2_with fail
        go_ret
        exact ⟨by rw [hres.out]; rfl, b4.out⟩
    · rw [hem2] at hie2
      have hres := Lib.hid (T2.out 2 (by omega) (hte2.out.2 hem2))
      clear hem2 hte2
      go_wp2_with fail
      go_ret
      exact ⟨by rw [hres.out]; rfl, b4.out⟩
end Go.Proofs.YtfeljdbodamflaaDoor
