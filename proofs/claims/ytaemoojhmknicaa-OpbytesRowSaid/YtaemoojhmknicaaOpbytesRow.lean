/-
  Operations one behind the other are taken in their order, as long as they are any; what stands behind them is left. Condition: none.
-/
import Derived.Test.YtaemoojhmknicaaPAwake
import Derived.Test.YtaemoojhmknicaaPOpen
import Derived.Test.YtaemoojhmknicaaPEq
import Derived.Test.YtaemoojhmknicaaPRTake
import Derived.Test.YtaemoojhmknicaaRows
namespace Go.Proofs.Ytaemoojhmknicaa.opbytesRow
open Go.ChangeShapes Go.WideShapes Go.ChangeAt Go.RowKit Cod
open Go.ChangeMaps (open_string shut_string)
set_option linter.unusedVariables false

theorem own : ownKnob Try.prog.godebug = none := by kernel_rfl

/-- Those that may be, of the first k. -/
def sel (f : Nat → OpN) (k : Nat) : List OpN := ((List.range k).map f).filter okOp
theorem sel_yes {f : Nat → OpN} {k : Nat} (h : okOp (f k) = true) : sel f (k + 1) = sel f k ++ [f k] := by
  unfold sel; rw [List.range_succ, List.map_append, List.filter_append]; simp [h]
theorem sel_no {f : Nat → OpN} {k : Nat} (h : okOp (f k) = false) : sel f (k + 1) = sel f k := by
  unfold sel; rw [List.range_succ, List.map_append, List.filter_append]; simp [h]
theorem sel_len (f : Nat → OpN) (k : Nat) : (sel f k).length ≤ k := by
  unfold sel
  refine Nat.le_trans (List.length_filter_le _ _) ?_
  simp
def rowB : List OpN → ByteArray
  | [] => ⟨#[]⟩
  | o :: T => opB o ++ rowB T
theorem rowB_snoc (T : List OpN) (o : OpN) : rowB (T ++ [o]) = rowB T ++ opB o := by
  induction T with
  | nil => show opB o ++ ⟨#[]⟩ = ⟨#[]⟩ ++ opB o; rw [app_none, app_none']
  | cons x T ih => show opB x ++ rowB (T ++ [o]) = opB x ++ rowB T ++ opB o; rw [ih, app_assoc]
theorem rowB_size {T : List OpN} (h : ∀ o ∈ T, OpI o ∧ o.cron.size ≤ 256) : (rowB T).size ≤ 350 * T.length := by
  induction T with
  | nil => exact Nat.le_refl 0
  | cons x T ih =>
    have h1 := opB_size (h x (by simp)).1 (by have := (h x (by simp)).2; omega)
    have h2 := ih (fun o ho => h o (by simp [ho]))
    have h3 := (h x (by simp)).2
    show (opB x ++ rowB T).size ≤ _
    rw [size_append', List.length_cons]; omega
def flatC (T : List OpN) : List Value := T.flatMap fun o => (opC o).toList
theorem flatC_len (T : List OpN) : (flatC T).length = T.length * 10 := by
  induction T with
  | nil => rfl
  | cons x T ih => show ((opC x).toList ++ flatC T).length = _; rw [List.length_append, ih, List.length_cons]; simp; omega
theorem flatC_snoc (T : List OpN) (o : OpN) : flatC T ++ (opC o).toList = flatC (T ++ [o]) := by unfold flatC; simp
theorem flatC_at (T : List OpN) (i : Nat) (hi : i < T.length) (j : Nat) (hj : j < 10) : (flatC T)[i * 10 + j]? = (opC T[i])[j]? := by
  induction T generalizing i with
  | nil => simp at hi
  | cons x T ih =>
    show ((opC x).toList ++ flatC T)[i * 10 + j]? = _
    match i, hi with
    | 0, _ =>
      rw [Nat.zero_mul, Nat.zero_add, List.getElem?_append_left (by simpa using hj)]
      simp
    | i + 1, hi =>
      rw [List.getElem?_append_right (by simp; omega)]
      have := ih i (by simpa using hi)
      rw [show (i + 1) * 10 + j - (opC x).toList.length = i * 10 + j by simp; omega, this]
      simp
theorem opC_one (o : OpN) : ∀ u ∈ (opC o).toList, u.oneCell' = true := by
  intro u hu
  simp only [List.mem_cons, List.not_mem_nil, or_false] at hu
  rcases hu with rfl | rfl | rfl | rfl | rfl | rfl | rfl | rfl | rfl | rfl <;> rfl
theorem opC_new (w : World) (o : OpN) : ∀ (j : Nat) (u : Value), (opC o).toList[j]? = some u → (w.alloc (.cells (opC o) 23)).cell? ((⟨w.heap.size, 0, none⟩ : Addr).add j) = some u := by
  intro j u hj
  rw [Addr.add_lit, Nat.zero_add]
  rw [Array.getElem?_toList] at hj
  simpa using hj
theorem infoOp : (Try.prog.info? 23).map (fun i => (i.zero, i.size, i.bytes)) = some (some (.agg #[.int .i64 0, .int .i64 0, .int .i64 0, .int .i64 0, .int .i64 0, .int .i64 0, .int .i64 0, .int .i64 0, .int .i64 0, .string ⟨#[]⟩]), 10, 88) := by kernel_rfl
/-- The row of those that are wanted. -/
abbrev Own (w : World) (v : Value) (T : List OpN) (W : World) : Prop := W.ownsRow w.heap.size 23 10 v T.length (flatC T)
theorem Own.below {w W W' : World} {v : Value} {T : List OpN} (h : Own w v T W) (k : Below W.heap.size W W') : Own w v T W' :=
  h.kept (row := none) ⟨k.os, k.tape, k.output, k.size, fun i hi _ => k.block i hi⟩ (by cases v.ownBlock; exact Or.inl rfl; exact Or.inr (by simp))

theorem Own.kept {w W W' : World} {v : Value} {T : List OpN} {b : Nat} (h : Own w v T W) (k : Kept b W W') (hne : v.ownBlock ≠ some b) : Own w v T W' :=
  World.ownsRow.kept (row := some b) h ⟨k.os, k.tape, k.output, k.size, fun i hi hb => k.block i hi (fun e => hb (by rw [e]))⟩ (Or.inr hne)
theorem Own.at {w W : World} {g n c : Nat} {T : List OpN} (h : Own w (.slice (some ⟨g, 0, none⟩) n c) T W) (i : Nat) (hi : i < T.length) (j : Nat) (v : Value) (hj : (opC T[i])[j]? = some v) : W.cell? ⟨g, i * 10 + j, none⟩ = some v := by
  have hj' : j < 10 := by
    rcases Nat.lt_or_ge j 10 with h | h
    · exact h
    · rw [Array.getElem?_eq_none (by simpa using h)] at hj; cases hj
  have := World.ownsRow.cells (g := g) h rfl (i * 10 + j) v ((flatC_at T i hi j hj').trans hj)
  rw [Addr.add_lit, Nat.zero_add] at this
  exact this

set_option maxHeartbeats 8000000 in
set_option maxRecDepth 100000 in
theorem walk (a : Option Addr) (len cap : Nat) (f : Nat → OpN) (s : ByteArray) (w : World) (t : Ops w a len f) (ln : len ≤ 9223372036854775807) :
    Calls Try.prog 5 #[.slice a len cap, .string s] w fun e w' => e = .returned (.bool true) ∧ Below w.heap.size w w' := by
  have b0 : Hid (Below w.heap.size w w) := Below.refl _ _
  replace t := Lib.hid t
  by_cases hc : len ≤ 20 ∧ s.size ≤ 500
  · obtain ⟨hl, hs⟩ := hc
    have hl1 : ¬ (20 : Int) < len := by omega
    have hs1 : ¬ (500 : Int) < s.size := by omega
    obtain ⟨i0, hi0, hz0, hzs, hzb⟩ := info_parts infoOp
    go_enter Try.func5, Try.ntmps5
    go_wp2_with fail
    refine (awake_any _).mono ?_
    rintro e w1 ⟨rfl, bx⟩
    replace b0 := Lib.hid (b0.out.trans (bx.mono b0.out.size))
    clear bx
    go_wp2_with fail
    go_loopw [5, 6, 32] (fun S v i wr => ∃ (k : Nat) (v1 : Value), k ≤ len ∧ i = .int .i64 k ∧ v = v1 ∧ Hid (S = .string (rowB (sel f k))) ∧ Hid (Own w v1 (sel f k) wr) ∧ Hid (∀ o ∈ sel f k, okOp o = true ∧ OpI o) ∧ Hid (Below w.heap.size w wr)) (fun _ _ i _ => len - (intOf i).toNat)
    case atStart => exact ⟨0, _, Nat.zero_le _, rfl, rfl, rfl, World.ownsRow_nil _ _ _ _, fun o ho => by simp [sel] at ho, b0⟩
    case round =>
      obtain ⟨k, v, hk, rfl, hvv, hS, ho, hok, kb⟩ := hrel
      have hvw := hvv.symm
      subst hvw
      clear b0
      have hS2 := hS.out
      subst hS2
      clear hS
      by_cases hlt : k < len
      · obtain ⟨bk, off, ea, z, y0, y1, y2, y3, y4, y5, y6, y7, y8, y9⟩ := (t.out.keep kb.out).at k hlt
        have hlt2 : (k : Int) < len := by omega
        have hsl := sel_len f k
        have hrs := rowB_size (T := sel f k) (fun o h => ⟨(hok.out o h).2, ((okOp_iff o).1 (hok.out o h).1).2.2⟩)
        subst ea
        have bn : ∀ o, Below wr.heap.size wr (wr.alloc o) := fun o => (Below.refl _ _).alloc (Nat.le_refl _) o
        have hbox := Lib.hid (OpBox.new wr (f k) 23)
        replace ho := Lib.hid (ho.out.below (bn (.cells (opC (f k)) 23)))
        replace kb := Lib.hid (kb.out.trans ((bn (.cells (opC (f k)) 23)).mono kb.out.size))
        clear bn
        go_upto_region 8 with fail
        clear y0 y1 y2 y3 y4 y5 y6 y7 y8 y9
        generalize wr.alloc (.cells (opC (f k)) 23) = w2 at *
        generalize wr.heap.size = q at *
        have q0 := hbox.out.cell 0 _ rfl
        obtain ⟨q1, q2, q3, q4, q5, q6, q7, q8, q9⟩ := hbox.out.nine
        by_cases hx : (f k).cron.size ≤ 1000
        · have hx1 : ((f k).cron.size : Int) ≤ 1000 := by omega
          have cm := Lib.hid (may_any (f k) w2 (by omega))
          cases hko : okOp (f k)
          · rw [hko] at cm
            have hsn := Lib.hid (sel_no hko)
            clear hko
            go_wp2_with fail
            refine cm.out.mono ?_
            rintro e w3 ⟨rfl, bx⟩
            replace ho := Lib.hid (ho.out.below bx)
            replace kb := Lib.hid (kb.out.trans (bx.mono kb.out.size))
            clear q0 q1 q2 q3 q4 q5 q6 q7 q8 q9 bx cm
            go_wp2_with fail
            rw [← hsn.out] at ho hok
            refine ⟨⟨k + 1, _, hlt, by go_num, rfl, by rw [hsn.out]; show _ = _; rfl, ho, hok, kb⟩, ?_⟩
            simp [intOf]; omega
          · rw [hko] at cm
            have hsy := Lib.hid (sel_yes hko)
            have cd := Lib.hid (fun X => refPrint_any (f k) X hko z.int)
            have hz1 := opB_size z.int (by omega)
            have hz2 : ¬ 9223372036854775807 < (rowB (sel f k)).size + (opB (f k)).size := by omega
            have hrow : Hid (rowB (sel f (k + 1)) = rowB (sel f k) ++ opB (f k)) := by show _ = _; rw [hsy.out, rowB_snoc]
            have hok2 : Hid (∀ o ∈ sel f (k + 1), okOp o = true ∧ OpI o) := fun o h => by
              rw [hsy.out] at h
              rcases List.mem_append.1 h with h | h
              · exact hok.out o h
              · obtain rfl : o = f k := by simpa using h
                exact ⟨hko, z.int⟩
            clear hko hz1 hok hrs
            go_wp2_with fail
            refine cm.out.mono ?_
            rintro e w3 ⟨rfl, bx⟩
            replace ho := Lib.hid (ho.out.below bx)
            replace hbox := Lib.hid (hbox.out.below bx)
            replace kb := Lib.hid (kb.out.trans (bx.mono kb.out.size))
            clear q0 q1 q2 q3 q4 q5 q6 q7 q8 q9 bx cm
            have q0 := hbox.out.cell 0 _ rfl
            obtain ⟨q1, q2, q3, q4, q5, q6, q7, q8, q9⟩ := hbox.out.nine
            go_wp2_with fail
            refine (cd.out _).mono ?_
            rintro e w4 ⟨rfl, bx⟩
            replace ho := Lib.hid (ho.out.below bx)
            replace hbox := Lib.hid (hbox.out.below bx)
            replace kb := Lib.hid (kb.out.trans (bx.mono kb.out.size))
            clear q0 q1 q2 q3 q4 q5 q6 q7 q8 q9 bx cd
            have q0 := hbox.out.cell 0 _ rfl
            obtain ⟨q1, q2, q3, q4, q5, q6, q7, q8, q9⟩ := hbox.out.nine
            have hn := Lib.hid (opC_new w4 (f k))
            go_wp2_with (at_builtin; refine wpList_append_own _ rfl _ _ 35 rfl w.heap.size 23 i0 _ 10 88 Try.underlying35 hi0 hz0 hzs hzb rfl (by decide) _ _ _ rfl (ho.out.alloc _) ⟨w4.heap.size, 0, none⟩ 1 1 (opC (f k)).toList rfl (by simp) hn.out (opC_one _) (by unfold maxLen; omega) (by omega) (by have := kb.out.size; simp; omega) ?_)
            intro v' w5 ho2 hg _
            have kb5 := Lib.hid ((kb.out.alloc kb.out.size (.cells (opC (f k)) 23)).grown hg (by have := kb.out.size; simp; omega) (fun x hx => (ho.out.lt x hx).1))
            have ho5 : Hid (Own w v' (sel f (k + 1)) w5) := by
              show World.ownsRow _ _ _ _ _ _ _
              rw [hsy.out, List.length_append, ← flatC_snoc]
              exact ho2
            clear q0 q1 q2 q3 q4 q5 q6 q7 q8 q9 hn ho2 hg ho kb hbox
            go_wp2_with fail
            refine ⟨⟨k + 1, _, hlt, by go_num, rfl, by rw [hrow.out]; show _ = _; rfl, ho5, hok2, kb5⟩, ?_⟩
            simp [intOf]; omega
        · have hx1 : ¬ ((f k).cron.size : Int) ≤ 1000 := by omega
          have hsn := Lib.hid (sel_no (f := f) (k := k) (Bool.eq_false_iff.2 fun h => hx (by have := ((okOp_iff _).1 h).2.2; omega)))
          replace hx := Lib.hid hx
          go_wp2_with fail
          rw [← hsn.out] at ho hok
          refine ⟨⟨k + 1, _, hlt, by go_num, rfl, by rw [hsn.out]; show _ = _; rfl, ho, hok, kb⟩, ?_⟩
          simp [intOf]; omega
      · obtain rfl : k = len := by omega
        have hlt2 : ¬ (k : Int) < k := by omega
        have hsl := sel_len f k
        have hrs := rowB_size (T := sel f k) (fun o h => ⟨(hok.out o h).2, ((okOp_iff o).1 (hok.out o h).1).2.2⟩)
        have hoks := hok
        generalize sel f k = T at *
        have hz1 : ¬ 9223372036854775807 < (rowB T).size + s.size := by omega
        have hsz : (rowB T ++ s).size ≤ 100000 := by rw [size_append']; omega
        go_wp2_with fail
        refine (read_any (rowB T ++ s) _ hsz).mono ?_
        rintro e w2 ⟨rb, rfl, hrb, t2, bx⟩
        have hrb2 : w.heap.size ≤ rb := Nat.le_trans kb.out.size hrb
        have hown := ho.out.lt
        replace ho := ho.out.below bx
        replace kb := kb.out.trans (bx.mono kb.out.size)
        have t3 := rfs_new w2 (rowB T ++ s) hsz
        have bn : Below w2.heap.size w2 (w2.alloc (.cells #[.string (rowB T ++ s), .int .i64 0, .int .i64 0] 40)) := (Below.refl _ _).alloc (Nat.le_refl _) _
        have hrf : rb < w2.heap.size := t2.lt
        replace t2 := Lib.hid (t2.below bn)
        replace ho := Lib.hid (ho.below bn)
        replace kb := Lib.hid (kb.trans (bn.mono kb.size))
        obtain ⟨av, cv, hv, hav⟩ : ∃ av cv, v = .slice av T.length cv ∧ (0 < T.length → ∃ g, av = some ⟨g, 0, none⟩ ∧ g < rb) := by
          rcases ho.out.2 with ⟨h1, h2⟩ | ⟨g, c, cur, h1, h2⟩
          · exact ⟨none, 0, by rw [h1, h2], fun h => by omega⟩
          · have := hown g (by rw [h1]; rfl)
            exact ⟨_, _, h1, fun _ => ⟨g, rfl, by omega⟩⟩
        subst hv
        replace hav := Lib.hid hav
        clear bx bn hown hrb hok
        replace hrb2 := Lib.hid hrb2
        replace hrf := Lib.hid hrf
        go_upto_region 13 with fail
        have hfb : Hid (w.heap.size ≤ w2.heap.size) := Nat.le_trans hrb2.out (Nat.le_of_lt hrf.out)
        replace t3 := Lib.hid t3
        generalize w2.alloc (Obj.cells #[.string (rowB T ++ s), .int .i64 0, .int .i64 0] 40) = w3 at *
        generalize w2.heap.size = fb at *
        have hne : Hid (rb ≠ fb) := Nat.ne_of_lt hrf.out
        have hzs2 : (rowB T).size ≤ 7000 := by omega
        clear hsz hz1
        go_wp2_with fail
        go_loopw [64] (fun i wr => ∃ j : Nat, j ≤ T.length ∧ i = .int .i64 j ∧ Hid (Rd wr rb ⟨rowB (T.drop j) ++ s, 0⟩) ∧ Hid (RfS wr fb (rowB T ++ s) ⟨rowB (T.drop j) ++ s, 0⟩) ∧ Hid (Own w (.slice av T.length cv) T wr) ∧ Hid (Below w.heap.size w wr)) (fun i _ => T.length - (intOf i).toNat)
        case atStart => exact ⟨0, Nat.zero_le _, rfl, t2, t3, ho, kb⟩
        case round =>
          clear t2 t3 ho kb
          obtain ⟨j, hj, rfl, t2, t3, ho, kb⟩ := hrel
          by_cases hlt : j < T.length
          · obtain ⟨g, rfl, hg⟩ := hav.out (by omega)
            have hlt2 : (j : Int) < T.length := by omega
            have hd : rowB (T.drop j) = opB T[j] ++ rowB (T.drop (j + 1)) := by rw [List.drop_eq_getElem_cons hlt]; rfl
            obtain ⟨oj, ij⟩ := hoks.out T[j] (List.getElem_mem hlt)
            have hta := take_back (rowB (T.drop (j + 1)) ++ s) oj ij
            have htb := took_back (rowB (T.drop (j + 1)) ++ s) oj ij
            rw [← app_assoc, ← hd] at hta htb
            have ta : Hid (takeA ⟨rowB (T.drop j) ++ s, 0⟩ = T[j]) := by show _ = _; unfold takeA; rw [if_pos htb, hta.1]
            have te : Hid (takeE ⟨rowB (T.drop j) ++ s, 0⟩ = ⟨rowB (T.drop (j + 1)) ++ s, 0⟩) := by show _ = _; unfold takeE; rw [hta.1, if_pos oj, hta.2]
            have tt : Hid (takeT ⟨rowB (T.drop j) ++ s, 0⟩ = ⟨rowB (T.drop (j + 1)) ++ s, 0⟩) := hta.2
            have cs := fun W (h : Own w (.slice (some ⟨g, 0, none⟩) T.length cv) T W) => Own.at h j hlt
            clear hta htb oj ij hd
            generalize T[j] = o at *
            have y0 : wr.cell? ⟨g, j * 10, none⟩ = some (.int .i64 o.kind) := cs wr ho.out 0 _ rfl
            have y1 := cs wr ho.out 1 _ rfl
            have y2 := cs wr ho.out 2 _ rfl
            have y3 := cs wr ho.out 3 _ rfl
            have y4 := cs wr ho.out 4 _ rfl
            have y5 := cs wr ho.out 5 _ rfl
            have y6 := cs wr ho.out 6 _ rfl
            have y7 := cs wr ho.out 7 _ rfl
            have y8 := cs wr ho.out 8 _ rfl
            have y9 := cs wr ho.out 9 _ rfl
            have hgr : Hid (g ≠ rb ∧ g ≠ fb) := ⟨by omega, by have := hrf.out; omega⟩
            have hq : Hid (wr.heap.size ≠ rb ∧ wr.heap.size ≠ fb) := ⟨by have := t2.out.lt; omega, by have := t3.out.lt; omega⟩
            have bn : Below wr.heap.size wr (wr.alloc (.cells (opC o) 23)) := (Below.refl _ _).alloc (Nat.le_refl _) _
            have hbox := Lib.hid (OpBox.new wr o 23)
            replace ho := Lib.hid (ho.out.below bn)
            replace t2 := Lib.hid (t2.out.below bn)
            replace t3 := Lib.hid (t3.out.below bn)
            replace kb := Lib.hid (kb.out.trans (bn.mono kb.out.size))
            clear bn cs
            go_upto_region 16 with fail
            clear y0 y1 y2 y3 y4 y5 y6 y7 y8 y9
            generalize wr.alloc (.cells (opC o) 23) = w4 at *
            generalize wr.heap.size = q at *
            have heq := eq_yes o
            go_wp2_with fail
            refine (take_any rb _ _ t2.out).mono ?_
            rintro e w5 ⟨rfl, t5, k5⟩
            rw [ta.out, te.out] at *
            replace t3 := t3.out.same k5.size (k5.block fb t3.out.lt hne.out.symm)
            replace ho := ho.out.kept k5 (by intro h; injection h with h; exact hgr.out.1 h)
            replace kb := kb.out.trans (k5.below hrb2.out kb.out.size)
            have b5 : OpBox w5 q o := ⟨Nat.lt_of_lt_of_le hbox.out.lt k5.size, fun j v hj => (World.cell?_of_block (k5.block q hbox.out.lt hq.out.1)).trans (hbox.out.cell j v hj)⟩
            have hnew := OpBox.new w5 o 23
            have bn : Below w5.heap.size w5 (w5.alloc (.cells (opC o) 23)) := (Below.refl _ _).alloc (Nat.le_refl _) _
            replace hbox := Lib.hid (b5.below bn)
            replace hnew := Lib.hid hnew
            replace ho := Lib.hid (ho.below bn)
            replace t2 := Lib.hid (t5.below bn)
            replace t3 := Lib.hid (t3.below bn)
            replace kb := Lib.hid (kb.trans (bn.mono kb.size))
            clear bn b5 t5 k5
            go_upto_region 17 with fail
            generalize w5.alloc (.cells (opC o) 23) = w6 at *
            generalize w5.heap.size = q2 at *
            have x0 := hbox.out.cell 0 _ rfl
            obtain ⟨x1, x2, x3, x4, x5, x6, x7, x8, x9⟩ := hbox.out.nine
            have y0 := hnew.out.cell 0 _ rfl
            obtain ⟨y1, y2, y3, y4, y5, y6, y7, y8, y9⟩ := hnew.out.nine
            go_wp2_with fail
            refine (err_any rb _ _ t2.out).mono ?_
            rintro e w7 ⟨rfl, rfl⟩
            clear x0 x1 x2 x3 x4 x5 x6 x7 x8 x9 y0 y1 y2 y3 y4 y5 y6 y7 y8 y9
            go_wp2_with fail
            refine (refTake_any fb _ _ _ t3.out).mono ?_
            rintro e w8 ⟨rfl, t8, k8⟩
            rw [tt.out] at t8
            replace t2 := Lib.hid (t2.out.kept k8 hne.out)
            replace ho := Lib.hid (ho.out.kept k8 (by intro h; injection h with h; exact hgr.out.2 h))
            replace kb := Lib.hid (kb.out.trans (k8.below hfb.out kb.out.size))
            replace t8 := Lib.hid t8
            clear t3 k8 hbox hnew
            go_wp2_with fail
            refine ⟨⟨j + 1, hlt, by go_num, t2, t8, ho, kb⟩, ?_⟩
            simp [intOf]; omega
          · obtain rfl : j = T.length := by omega
            have hlt2 : ¬ (T.length : Int) < T.length := by omega
            have hst : (⟨rowB (T.drop T.length) ++ s, 0⟩ : St) = ⟨s, 0⟩ := by rw [List.drop_length]; show (⟨(⟨#[]⟩ : ByteArray) ++ s, 0⟩ : St) = _; rw [app_none]
            rw [hst] at t2 t3
            have hl0 : leftS ⟨s, 0⟩ = (s.size : Int) := by unfold leftS; rw [if_pos rfl]
            have hls : (leftS ⟨s, 0⟩ != (s.size : Int)) = false := by rw [hl0]; simp
            have he : Hid (decide ((takeE ⟨s, 0⟩).e = 0) = tookB ⟨s, 0⟩) := takeE_e ⟨s, 0⟩
            clear hst hoks hav ho hl0
            go_wp2_with fail
            refine (left_any rb _ _ t2.out).mono ?_
            rintro e w4 ⟨rfl, rfl⟩
            go_wp2_with fail
            refine (take_any rb _ _ t2.out).mono ?_
            rintro e w5 ⟨rfl, t5, k5⟩
            replace t3 := t3.out.same k5.size (k5.block fb t3.out.lt hne.out.symm)
            replace kb := kb.out.trans (k5.below hrb2.out kb.out.size)
            have cf := Lib.hid (fun W (h : RfS W fb (rowB T ++ s) ⟨s, 0⟩) => refTake_any fb (rowB T ++ s) ⟨s, 0⟩ W h)
            generalize takeA ⟨s, 0⟩ = o at *
            generalize takeE ⟨s, 0⟩ = E at *
            generalize tookB ⟨s, 0⟩ = B at *
            generalize takeT ⟨s, 0⟩ = E2 at *
            have hq : Hid (w5.heap.size ≠ fb) := fun e => by have := t3.lt; omega
            have h1 := OpBox.new w5 o 23
            have bn : Below w5.heap.size w5 (w5.alloc (.cells (opC o) 23)) := (Below.refl _ _).alloc (Nat.le_refl _) _
            replace h1 := Lib.hid h1
            replace t5 := Lib.hid (t5.below bn)
            replace t3 := Lib.hid (t3.below bn)
            replace kb := Lib.hid (kb.trans (bn.mono kb.size))
            have heq := eq_yes o
            clear bn t2 k5
            go_upto_region 24 with fail
            generalize w5.alloc (.cells (opC o) 23) = w6 at *
            generalize w5.heap.size = q at *
            go_wp2_with fail
            refine (cf.out _ t3.out).mono ?_
            rintro e w7 ⟨rfl, t7, k7⟩
            have g1 : OpBox w7 q o := ⟨Nat.lt_of_lt_of_le h1.out.lt k7.size, fun j v hj => (World.cell?_of_block (k7.block q h1.out.lt hq.out)).trans (h1.out.cell j v hj)⟩
            have t8 := t5.out.kept k7 hne.out
            replace kb := kb.out.trans (k7.below hfb.out kb.out.size)
            have h2 := OpBox.new w7 o 23
            have bn : Below w7.heap.size w7 (w7.alloc (.cells (opC o) 23)) := (Below.refl _ _).alloc (Nat.le_refl _) _
            replace h2 := Lib.hid h2
            replace h1 := Lib.hid (g1.below bn)
            replace t8 := Lib.hid (t8.below bn)
            replace kb := Lib.hid (kb.trans (bn.mono kb.size))
            clear bn t3 t5 t7 k7 g1 cf
            go_upto_region 25 with fail
            generalize w7.alloc (.cells (opC o) 23) = w8 at *
            generalize w7.heap.size = q3 at *
            have x0 := h1.out.cell 0 _ rfl
            obtain ⟨x1, x2, x3, x4, x5, x6, x7, x8, x9⟩ := h1.out.nine
            have y0 := h2.out.cell 0 _ rfl
            obtain ⟨y1, y2, y3, y4, y5, y6, y7, y8, y9⟩ := h2.out.nine
            cases B
            · have he2 : (E.e == 0) = false := by have := of_decide_eq_false he.out; simpa using this
              go_wp2_with fail
              refine (err_any rb _ _ t8.out).mono ?_
              rintro e w9 ⟨rfl, rfl⟩
              go_wp2_with fail
              go_ret
              exact ⟨rfl, kb.out⟩
            · have he2 : (E.e == 0) = true := by have := of_decide_eq_true he.out; simpa using this
              go_wp2_with fail
              refine (err_any rb _ _ t8.out).mono ?_
              rintro e w9 ⟨rfl, rfl⟩
              go_wp2_with fail
              go_ret
              exact ⟨rfl, kb.out⟩
  · have hcase : (20 : Int) < len ∨ ¬ (20 : Int) < len ∧ (500 : Int) < s.size := by omega
    clear hc
    rcases hcase with h1 | ⟨h1, h2⟩
    all_goals
      go_enter Try.func5, Try.ntmps5
      go_wp2_with fail
      refine (awake_any _).mono ?_
      rintro e w1 ⟨rfl, bx⟩
      replace b0 := Lib.hid (b0.out.trans (bx.mono b0.out.size))
      clear bx
      go_wp2_with fail
      refine (awake_any _).mono ?_
      rintro e w2 ⟨rfl, bx⟩
      replace b0 := Lib.hid (b0.out.trans (bx.mono b0.out.size))
      clear bx
      go_wp2_with fail
      go_ret
      exact ⟨rfl, b0.out⟩

set_option maxRecDepth 100000 in
theorem lifted (os : Os) (started : os.Started) (H : Type) (enc : TypeId × Value → H) :
    ReturnsInHanded {} Try.checked os 5 .any (Rows.opbytesRowSpec.pre6 enc Try.prog Try.f5 Rows.opbytesRowRow.domain false) (Rows.opbytesRowSpec.post enc Try.prog Try.f5 false true false false) := by
  refine returnsInHanded_of_change (C := Try.checked) own started (by kernel_rfl) Try.func5
    (ChangeSpec.witness6 (enc := enc) (C := Try.checked) false ⟨#[], #[.slice none 0 0, .string ByteArray.empty], []⟩ 8 (by kernel_rfl) (by kernel_rfl) (by kernel_rfl) (by kernel_rfl)) ?_
  intro W base args ds gs before hval0 hW _ _
  have hval : ∀ (j : Nat) t v, Try.f5.params[j]? = some t → args[j]? = some v → Value.okWide Try.prog W .any base t v := hval0
  have hW' := hW
  obtain ⟨p, q, hA0, hV, rfl, hfz, hnd⟩ := hW
  have hA : DataW.TrodAll enc Try.prog W 0 (fun _ => true) true Try.f5.params.toList args.toList ds p := hA0
  rw [Try.params5] at hA hval
  obtain ⟨v0, vs0, d0, ds0, p0, q0, hargs, rfl, rfl, h0, r0⟩ := trodAll_cons hA
  obtain ⟨v1, vs1, d1, ds1, p1, q1, rfl, rfl, rfl, h1, r1⟩ := trodAll_cons r0
  obtain ⟨rfl, rfl, rfl⟩ := trodAll_nil r1
  obtain rfl : args = #[v0, v1] := by cases args; simp_all
  obtain ⟨rfl, rfl⟩ := trodVars_none hV
  obtain ⟨a0, len0, cap0, rfl⟩ := okWide_slice Try.underlying35 (hval 0 35 v0 rfl rfl)
  have k0 := h0
  have lt0 : ∀ x ∈ p0, x.block < W.heap.size := by obtain ⟨m, hm⟩ := k0; exact DataW.trod_lt m _ _ _ hm
  obtain ⟨f0, w0, ln0⟩ : ∃ f, Ops W a0 len0 f ∧ len0 ≤ 9223372036854775807 := by
    obtain ⟨fuel, hf⟩ := h0
    exact ops_of hf
  obtain ⟨a1, rfl, rfl, rfl, w1⟩ := open_string Try.underlying9 (hval 1 9 v1 rfl rfl) h1
  clear hA0 hval0
  refine (walk a0 len0 cap0 f0 a1 W w0 ln0).mono fun e W' ⟨he, bel⟩ => ?_
  subst he
  exact ⟨_, rfl, _, _, _, [], _, [], hW', trodAll_mk1 (shut_bool Try.underlying4 _), (trodAll_cons_mk (Below.trod laidOut10 (by kernel_rfl) (of_decide_eq_true (by kernel_rfl)) k0 bel lt0) (trodAll_cons_mk (shut_string Try.underlying9 w1) trodAll_mk0)), rfl, bel.frame _, fun h => by cases h⟩

theorem over : Rows.opbytesRowRow.holds Try.pinned (OpenSpec.ofChange Rows.opbytesRowSpec) :=
  OpenClaim.holds_of_wide 5 Try.f5 rfl rfl rfl rfl rfl rfl rfl ⟨rfl, rfl, rfl, rfl, rfl⟩ rfl rfl rfl rfl rfl (by kernel_rfl) Try.func5 (by kernel_rfl)
    (of_decide_eq_true (by kernel_rfl)) (by unfold Func.isWrapper; first | (rw [if_pos (by decide +kernel)]; kernel_rfl) | (rw [if_neg (by decide +kernel)]; exact ⟨rfl, rfl⟩))
    (fun os started H enc _ => lifted os started H enc)

/-- The statement. -/
theorem proved : Rows.OpbytesRowSaid := over
#print axioms proved
end Go.Proofs.Ytaemoojhmknicaa.opbytesRow
