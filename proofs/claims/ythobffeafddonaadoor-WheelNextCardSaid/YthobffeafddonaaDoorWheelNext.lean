/-
  WheelNext: nobody comes due ahead of the time that Next tells, and then one does. No condition but what the card lists.
-/
import Derived.Test.YthobffeafddonaaDoorLift
import Derived.Test.YthobffeafddonaaDoorWNext
import Derived.Deep.DeepCutAuto
import Derived.Deep.CutRange
set_option linter.unusedVariables false
namespace Go.Proofs.YthobffeafddonaaDoor.wheelNext
open Go.ChangeShapes Go.WideShapes Go.ChangeAt Go.RowKit Whl
open Go.ChangeMaps (open_string shut_string)

theorem wt_max {base : Nat} {w : World} {b now : Nat} {l : List ItemN} {O : Nat → Prop} (h : WT base w b now l O) : ∀ p, p ∈ l → p.1 ≤ 1099511627776 := by
  obtain ⟨m, V, F, L, t, hS, tm, tok, o1, o2⟩ := h.ex
  exact hS.max
def lateBy (l : List ItemN) (n : Nat) : List ItemN := l.filter fun p => decide (n < p.1)
theorem due_late {l : List ItemN} (h : Up l) (n : Nat) : l = dueBy l n ++ lateBy l n := by
  unfold dueBy lateBy
  refine Up.eq h (List.pairwise_append.2 ⟨h.filter _, h.filter _, fun p hp q hq => ?_⟩) fun p => ?_
  · have h1 := (List.mem_filter.1 hp).2
    have h2 := (List.mem_filter.1 hq).2
    simp at h1 h2
    rw [ltB_iff]; omega
  · rw [List.mem_append, List.mem_filter, List.mem_filter]
    simp
    constructor
    · intro h1
      by_cases h4 : p.1 ≤ n
      · exact .inl ⟨h1, h4⟩
      · exact .inr ⟨h1, by omega⟩
    · rintro (⟨h1, h2⟩ | ⟨h1, h2⟩) <;> exact h1
theorem less_head {q : ItemN} {r : List ItemN} (h : Up (q :: r)) : (q :: r).filter (· != q) = r := by
  rw [List.filter_cons_of_neg (by simp)]
  refine List.filter_eq_self.2 fun p hp => ?_
  have := h.head p hp
  rw [ltB_iff] at this
  simp
  intro e
  subst e
  omega
theorem come_none {p : ItemN} {r : List ItemN} (h : Up (p :: r)) (n : Nat) (h0 : 0 < p.1) : comeBy (p :: r) n (p.1 - 1) = [] := by
  unfold comeBy
  rw [List.filter_eq_nil_iff]
  intro q hq
  have := head_le h hq
  simp
  omega
theorem come_head {p : ItemN} {r : List ItemN} (n : Nat) (h0 : n < p.1) : ∃ r', comeBy (p :: r) n p.1 = p :: r' := by
  refine ⟨r.filter fun q => decide (n < q.1) && decide (q.1 ≤ p.1), ?_⟩
  unfold comeBy
  rw [List.filter_cons_of_pos (by simpa using h0)]
set_option maxRecDepth 100000 in
set_option maxHeartbeats 4000000 in
theorem walk (now : Int) (h1 : (Lit.int .i64 now).wf = true) (sa : Option Addr) (n cap : Nat) (f : Nat → Int) (w : World) (tb : Bru w) (hf : Ints .i64 w sa n f) :
    Calls Tryd.prog 7 #[.int .i64 now, .slice sa n cap] w fun e w' => e = .returned (.bool true) ∧ Below w.heap.size w w' := by
  obtain ⟨U1, hU1⟩ : ∃ U : Nat, IntKind.u64.wrap now = (U : Int) := ⟨(IntKind.u64.wrap now).toNat, by rw [IntKind.wrap_u64]; omega⟩
  obtain ⟨N, hN⟩ : ∃ N : Nat, (U1 : Int) % 274877906944 = (N : Int) := ⟨U1 % 274877906944, by omega⟩
  have hN8 : (N : Int) < 274877906944 := by omega
  have hpos : 0 < w.heap.size := Nat.lt_of_le_of_lt (Nat.zero_le _) (World.block_lt_of_cell? w _ (tb 0 (by omega)))
  have cw := Lib.hid (fun W (t : Bru W) => awake_any W t)
  have cN := Lib.hid (fun W (hb : w.heap.size ≤ W.heap.size) (t : Bru W) => new_any w.heap.size W (N : Int) N (by omega) hb hpos t)
  have cS := Lib.hid (fun W b l O (id x : Nat) (h : WT w.heap.size W b N l O) hn hid ha hl => set_new w.heap.size W b N l O id x h hn hid ha hl)
  have cA := Lib.hid (fun W b nw l O k h => advance_any w.heap.size W b nw l O k h)
  have cD := Lib.hid (fun W b nw l O k h => due_any w.heap.size W b nw l O k h)
  have cL := Lib.hid (fun W b nw l O h => len_any w.heap.size W b nw l O h)
  have cW := Lib.hid (fun W b nw l O h => now_any w.heap.size W b nw l O h)
  have cX := Lib.hid (fun W b nw p r O h => next_some w.heap.size W b nw p r O h)
  have cR := Lib.hid (fun W b nw l O a id h hp => rem_some w.heap.size W b nw l O a id h hp)
  have hbr : Hid (∀ W, Below w.heap.size w W → Bru W) := fun W k => tb.kp (Kp.ofBelow (O := fun _ => False) k) (fun x hx => hx.elim)
  replace hf := Lib.hid hf
  replace hpos := Lib.hid hpos
  have ca0 := Lib.hid (cw.out w tb)
  clear h1 tb
  by_cases hn : (n : Int) ≤ 200
  · go_enter Tryd.func7, Tryd.ntmps7
    go_wp2_with (first | simp only [hU1])
    clear hU1 hN
    replace hN8 := Lib.hid hN8
    have hd : decide ((200 : Int) < (n : Int)) = false := decide_eq_false (by omega)
    replace hn := Lib.hid hn
    refine ca0.out.mono ?_
    rintro e w1 ⟨rfl, k1⟩
    have cn1 := Lib.hid (cN.out w1 k1.size (hbr.out w1 k1))
    replace k1 := Lib.hid k1
    clear ca0 cw
    go_wp2_with fail
    clear hd
    refine cn1.out.mono ?_
    rintro e w2 ⟨rfl, wt1, g2⟩
    have k2 := Lib.hid (k1.out.trans (g2.mono k1.out.size))
    replace wt1 := Lib.hid wt1
    clear cn1 cN hbr g2 k1
    generalize w1.heap.size = b1 at *
    go_wp2_with fail
    go_loopw [30] (fun v wr => ∃ (k : Nat) (l : List ItemN) (O : Nat → Prop), v = .int .i64 k ∧ (k : Int) ≤ n ∧ Hid (l.length = k ∧ ∀ p, p ∈ l → p.2 < k) ∧ Hid (WT w.heap.size wr b1 N l O) ∧ Hid (Below w.heap.size w wr)) (fun v _ => ((n : Int) - intOf v).toNat)
    case atStart => exact ⟨0, [], _, rfl, by omega, ⟨rfl, fun p hp => by simp at hp⟩, wt1, k2⟩
    case round =>
      obtain ⟨k, l, O, rfl, hk, hl, T, kb⟩ := hrel
      clear wt1 k2
      by_cases hkn : (k : Int) < n
      · obtain ⟨tb2, to2, rfl, hc0, hz⟩ := hf.out k (by omega)
        have hc : wr.cell? ⟨tb2, to2 + k, none⟩ = some (.int .i64 (f k)) := (kb.out.cell (p := ⟨tb2, to2 + k, none⟩) (World.block_lt_of_cell? w _ hc0)).trans hc0
        clear hc0 hz
        obtain ⟨U, hU⟩ : ∃ U : Nat, IntKind.u64.wrap (f k) = (U : Int) := ⟨(IntKind.u64.wrap (f k)).toNat, by rw [IntKind.wrap_u64]; omega⟩
        obtain ⟨X, hX⟩ : ∃ X : Nat, (U : Int) % 137438953472 = (X : Int) := ⟨U % 137438953472, by omega⟩
        have hX8 : (X : Int) < 137438953472 := by omega
        obtain ⟨M, hM⟩ : ∃ M : Nat, (N : Int) + 1 = (M : Int) := ⟨N + 1, by omega⟩
        obtain ⟨Y, hY⟩ : ∃ Y : Nat, (M : Int) + (X : Int) = (Y : Int) := ⟨M + X, by omega⟩
        have hY8 : Hid (N < Y ∧ Y ≤ 412316860416) := by have := hN8.out; unfold Hid; omega
        have hw1 : IntKind.i64.wrap (M : Int) = (M : Int) := by rw [IntKind.wrap_i64]; have := hN8.out; omega
        have hw2 : IntKind.i64.wrap (Y : Int) = (Y : Int) := by rw [IntKind.wrap_i64]; have := hY8.out; omega
        have hw3 : IntKind.i64.wrap (X : Int) = (X : Int) := by rw [IntKind.wrap_i64]; omega
        have hw4 : IntKind.i64.wrap ((k : Int) + 1) = (k : Int) + 1 := by rw [IntKind.wrap_i64]; have := hn.out; omega
        replace hX8 := Lib.hid hX8
        generalize f k = fk at *
        have hnew : Hid (∀ p, p ∈ l → p.2 ≠ k) := fun p hp e => by have := hl.out.2 p hp; omega
        have c1 := Lib.hid (cS.out wr b1 l O k Y T.out hnew.out (by have := hn.out; omega) (by have := hY8.out; omega) (by have := hl.out.1; have := hn.out; omega))
        have hl2 : Hid ((ins (Y, k) l).length = k + 1 ∧ ∀ p, p ∈ ins (Y, k) l → p.2 < k + 1) := by
          refine ⟨by rw [ins_len, hl.out.1], fun p hp => ?_⟩
          rcases mem_ins.1 hp with e | e
          · rw [e]; exact Nat.lt_succ_self _
          · have := hl.out.2 p e; omega
        go_upto_region 8 with fail
        clear hc
        go_wp2_with (first | simp only [hU] | simp only [hX])
        refine c1.out.mono ?_
        rintro e w4 ⟨rfl, O3, A3⟩
        have kb4 := Lib.hid (kb.out.trans (A3.below T.out kb.out.size))
        have T4 := Lib.hid A3.wt
        clear c1 A3 T kb
        go_wp2_with fail
        exact ⟨⟨k + 1, _, _, by go_num, by omega, hl2, T4, kb4⟩, by simp [intOf]; omega⟩
      · have hl2 : Hid (l.length ≤ 200) := by have := hl.out.1; have := hn.out; unfold Hid; omega
        clear cS hf hk hl hN8 hn
        go_wp2_with fail
        go_loopw [46] (fun v wr => ∃ (k N : Nat) (l : List ItemN) (O : Nat → Prop), v = .int .i64 k ∧ (k : Int) ≤ 50 ∧ Hid (l.length ≤ 200) ∧ Hid (WT w.heap.size wr b1 N l O) ∧ Hid (Below w.heap.size w wr)) (fun v _ => ((50 : Int) - intOf v).toNat)
        case atStart => exact ⟨0, N, l, O, rfl, by omega, hl2, T, kb⟩
        case round =>
          clear T kb hl2
          rename_i wr0
          obtain ⟨k2, N2, l2, O2, rfl, hk2, hl2, T, kb⟩ := hrel
          by_cases hk5 : (k2 : Int) < 50
          · obtain ⟨O3, T3, h3⟩ := T.out.tight
            obtain ⟨hup, _⟩ := T3.up
            have hsp := due_late hup N2
            have hD2 : (dueBy l2 N2).length ≤ 200 := Nat.le_trans (List.length_filter_le _ _) hl2.out
            have hE2 : Hid ((lateBy l2 N2).length ≤ 200) := Nat.le_trans (List.length_filter_le _ _) hl2.out
            have htk : (dueBy l2 N2).take (1000 : Int).toNat = dueBy l2 N2 := List.take_of_length_le (by show _ ≤ 1000; omega)
            have hsum : (l2.length : Int) - ((dueBy l2 N2).length : Int) = ((lateBy l2 N2).length : Int) := by
              have := congrArg List.length hsp
              rw [List.length_append] at this
              omega
            have hlate : Hid (∀ p, p ∈ lateBy l2 N2 → N2 < p.1) := fun p hp => by
              have := (List.mem_filter.1 hp).2
              simpa using this
            have hmx : Hid (∀ p, p ∈ lateBy l2 N2 → p.1 ≤ 1099511627776) := fun p hp => wt_max T3 p (List.mem_filter.1 hp).1
            have hw0 : IntKind.i64.wrap ((lateBy l2 N2).length : Int) = ((lateBy l2 N2).length : Int) := by rw [IntKind.wrap_i64]; have := hE2.out; omega
            have hwk : IntKind.i64.wrap ((k2 : Int) + 1) = (k2 : Int) + 1 := by rw [IntKind.wrap_i64]; omega
            have c1 := Lib.hid (cL.out wr b1 N2 l2 O3 T3)
            have c2 := Lib.hid (cD.out wr b1 N2 l2 O3 1000 T3)
            have cD2 := Lib.hid (fun W (k : Below wr.heap.size wr W) => cD.out W b1 N2 l2 O3 1000 (T3.below k))
            rw [htk] at c2
            simp only [htk] at cD2
            have hlo : Hid (∀ x, O3 x → x < wr.heap.size) := fun x hx => (h3 x hx).2
            have T4 : Hid (WT w.heap.size wr b1 N2 (dueBy l2 N2 ++ lateBy l2 N2) O3) := by
              unfold Hid
              rw [← hsp]
              exact T3
            clear T T3 h3 hup hsp htk hl2
            generalize dueBy l2 N2 = D at *
            generalize lateBy l2 N2 = E at *
            generalize l2.length = ln at *
            have hDi : (D.length : Int) ≤ 50000 := by omega
            replace hD2 := Lib.hid hD2
            go_wp2_with fail
            refine c1.out.mono ?_
            rintro e w3 ⟨rfl, rfl⟩
            go_wp2_with fail
            refine c2.out.mono ?_
            rintro e w4 ⟨v4, rfl, R4, g4⟩
            obtain ⟨a4, cap4, rfl, _, _, _⟩ := R4.look
            have kb4 := Lib.hid (kb.out.trans (g4.mono kb.out.size))
            have c5 := Lib.hid (cD2.out w4 g4)
            replace g4 := Lib.hid g4
            clear c1 c2 cD2 R4
            cases hEE : E with
            | nil =>
              subst hEE
              simp only [List.length_nil] at hsum hw0
              go_wp2_with fail
              go_ret
              exact ⟨rfl, kb4.out⟩
            | cons p r =>
              subst hEE
              have hlen0 : (((p :: r).length : Nat) : Int) ≠ 0 := by simp; omega
              generalize hel : (p :: r).length = el at *
              have hel0 : ((el : Int) == 0) = false := by rw [beq_eq_false_iff_ne]; exact hlen0
              clear hlen0
              go_wp2_with fail
              refine c5.out.mono ?_
              rintro e w5 ⟨v5, rfl, R5, g5⟩
              have kb5 := Lib.hid (kb4.out.trans (g5.mono kb4.out.size))
              have n5 : Hid (∀ x, v5.ownBlock = some x → ¬ O3 x) := fun x hx hO => by
                have h1 := (World.ownsRow.lt R5 x hx).1
                have h2 := hlo.out x hO
                have h3 := g4.out.size
                omega
              obtain ⟨a5, cap5, rfl, _, _, ha5⟩ := R5.look
              have T5 := Lib.hid ((T4.out.below g4.out).below g5)
              replace R5 := Lib.hid R5
              replace ha5 := Lib.hid ha5
              clear c5 g5 T4 g4 kb4 kb hlo
              generalize w4.heap.size = B at *
              go_wp2_with fail
              go_loopw [59] (fun v wx => ∃ (j : Nat) (O : Nat → Prop), v = .int .i64 j ∧ (j : Int) ≤ D.length ∧ Hid (WT w.heap.size wx b1 N2 (D.drop j ++ p :: r) O) ∧ Hid (Rw B wx (.slice a5 D.length cap5) D) ∧ Hid (∀ x, (Value.slice a5 D.length cap5).ownBlock = some x → ¬ O x) ∧ Hid (Below w.heap.size w wx)) (fun v _ => ((D.length : Int) - intOf v).toNat)
              case atStart => exact ⟨0, O3, rfl, by omega, by rw [List.drop_zero]; exact T5, R5, n5, kb5⟩
              case round =>
                clear T5 R5 n5 kb5
                rename_i wr1
                obtain ⟨j, O, rfl, hj, T, R, no, kb⟩ := hrel
                by_cases hjq : (j : Int) < D.length
                · obtain ⟨g0, rfl⟩ := ha5.out j (by omega)
                  obtain ⟨x0, x1⟩ := R.out.cells j (by omega)
                  have hdr : D.drop j = D[j] :: D.drop (j + 1) := List.drop_eq_getElem_cons (by omega)
                  have T1 := T.out
                  rw [hdr, List.cons_append] at T1
                  have hls := less_head T1.up.1
                  generalize D[j] = q at *
                  obtain ⟨q0, q1⟩ := q
                  simp only at x0 x1
                  have hal := (Below.refl wr.heap.size wr).alloc (Nat.le_refl _) (.cells #[.int .i64 (q0 : Int), .int .i64 (q1 : Int)] 52)
                  have hbk : Bk wr.heap.size (wr.alloc (.cells #[.int .i64 (q0 : Int), .int .i64 (q1 : Int)] 52)) (q0, q1) := Go.heap_alloc_new wr _
                  obtain ⟨y0, y1, _, _⟩ := hbk.cells
                  simp only at y0 y1
                  have c1 := Lib.hid (cR.out _ b1 N2 _ O q0 q1 (T1.below hal) (by simp))
                  rw [hls] at c1
                  have T2 := Lib.hid (T1.below hal)
                  have R2 := Lib.hid (R.out.below hal)
                  have kb2 := Lib.hid (kb.out.trans (hal.mono kb.out.size))
                  have hwj : IntKind.i64.wrap ((j : Int) + 1) = (j : Int) + 1 := by rw [IntKind.wrap_i64]; omega
                  clear T1 hls hdr hbk hal T R kb
                  go_wp2_with fail
                  refine c1.out.mono ?_
                  rintro e w6 ⟨rfl, O6, A6⟩
                  obtain ⟨R6, n6⟩ := R2.out.after A6 no.out
                  have kb6 := Lib.hid (kb2.out.trans (A6.below T2.out kb2.out.size))
                  have T6 := Lib.hid A6.wt
                  replace R6 := Lib.hid R6
                  replace n6 := Lib.hid n6
                  clear c1 A6 T2 R2 kb2 y0 y1 x0 x1
                  go_wp2_with fail
                  exact ⟨⟨j + 1, O6, by go_num, by omega, T6, R6, n6, kb6⟩, by simp [intOf]; omega⟩
                · have T1 : WT w.heap.size wr b1 N2 (p :: r) O := by
                    have := T.out
                    rw [List.drop_of_length_le (by omega), List.nil_append] at this
                    exact this
                  have hp1 := hlate.out p (by simp)
                  have hp2 := hmx.out p (by simp)
                  obtain ⟨P1, hP1⟩ : ∃ P1 : Nat, (p.1 : Int) - 1 = (P1 : Int) := ⟨p.1 - 1, by omega⟩
                  have hP2 : p.1 - 1 = P1 := by omega
                  have hm1 : max N2 (min (P1 : Int) 1099511627776).toNat = P1 := by omega
                  have hm2 : max P1 (min (p.1 : Int) 1099511627776).toNat = p.1 := by omega
                  have hcn := come_none T1.up.1 N2 (by omega)
                  obtain ⟨r2, hch⟩ := come_head (p := p) (r := r) P1 (by omega)
                  rw [hP2] at hcn
                  have hwp : IntKind.i64.wrap (P1 : Int) = (P1 : Int) := by rw [IntKind.wrap_i64]; omega
                  have hnp : (N2 : Int) < p.1 := by omega
                  have c1 := Lib.hid (cX.out wr b1 N2 p r O T1)
                  have cw2 := Lib.hid (fun W (k : Below wr.heap.size wr W) => cW.out W b1 N2 (p :: r) O (T1.below k))
                  have c2 := Lib.hid (fun W (k : Below wr.heap.size wr W) => cA.out W b1 N2 (p :: r) O (P1 : Int) (T1.below k))
                  have c3 := Lib.hid (fun W O (h : WT w.heap.size W b1 P1 (p :: r) O) => cA.out W b1 P1 (p :: r) O (p.1 : Int) h)
                  simp only [hm1, hcn] at c2
                  simp only [hm2, hch] at c3
                  have hfin : Hid ((p :: r).length ≤ 200) := by have := hE2.out; unfold Hid; omega
                  replace T1 := Lib.hid T1
                  clear hcn hch hm1 hm2 hP2 hp1 hp2 T R no hel hlate hmx
                  obtain ⟨p0, p1⟩ := p
                  simp only at *
                  go_wp2_with fail
                  refine c1.out.mono ?_
                  rintro e w6 ⟨rfl, k6⟩
                  have cw3 := Lib.hid (cw2.out w6 k6)
                  have c4 := Lib.hid (c2.out w6 k6)
                  have T6 := Lib.hid (T1.out.below k6)
                  have kb6 := Lib.hid (kb.out.trans (k6.mono kb.out.size))
                  clear c1 cw2 c2 k6 T1
                  go_wp2_with fail
                  refine cw3.out.mono ?_
                  rintro e w7 ⟨rfl, rfl⟩
                  go_wp2_with fail
                  refine c4.out.mono ?_
                  rintro e w8 ⟨v8, O8, rfl, A8, R8, n8⟩
                  have kb8 := Lib.hid (kb6.out.trans (A8.below T6.out kb6.out.size))
                  obtain ⟨a8, cap8, rfl, _, _, _⟩ := R8.look
                  have c5 := Lib.hid (c3.out w8 O8 A8.wt)
                  have T8 := Lib.hid A8.wt
                  clear c4 cw3 A8 R8 n8 T6 kb6 c3
                  simp only [List.length_nil]
                  go_wp2_with fail
                  refine c5.out.mono ?_
                  rintro e w9 ⟨v9, O9, rfl, A9, R9, n9⟩
                  have kb9 := Lib.hid (kb8.out.trans (A9.below T8.out kb8.out.size))
                  obtain ⟨a9, cap9, rfl, _, _, ha9⟩ := R9.look
                  obtain ⟨g9, rfl⟩ := ha9 0 (by simp)
                  obtain ⟨z0, z1⟩ := R9.cells 0 (by simp)
                  simp only [List.getElem_cons_zero, Nat.zero_mul, Nat.zero_add] at z0 z1
                  have T9 := Lib.hid A9.wt
                  generalize hln : ((p0, p1) :: r2).length = n9l at *
                  have hn9 : (0 : Int) < n9l := by rw [← hln]; simp
                  have hn91 : ((n9l : Int) == 0) = false := by rw [beq_eq_false_iff_ne]; omega
                  clear c5 A9 R9 n9 T8 kb8 ha9 hln
                  go_wp2_with fail
                  exact ⟨⟨k2 + 1, p0, (p0, p1) :: r, O9, by go_num, by omega, hfin, T9, kb9⟩, by simp [intOf]; omega⟩
          · go_wp2_with fail
            go_ret
            exact ⟨rfl, kb.out⟩
  · have hd : decide ((200 : Int) < (n : Int)) = true := decide_eq_true (by omega)
    clear hn
    go_enter Tryd.func7, Tryd.ntmps7
    go_wp2_with (first | simp only [hU1])
    refine ca0.out.mono ?_
    rintro e w1 ⟨rfl, k1⟩
    have c2 := Lib.hid (cw.out w1 (hbr.out w1 k1))
    replace k1 := Lib.hid k1
    go_wp2_with fail
    refine c2.out.mono ?_
    rintro e w2 ⟨rfl, k2⟩
    go_wp2_with fail
    go_ret
    exact ⟨rfl, k1.out.trans (k2.mono k1.out.size)⟩


set_option maxRecDepth 100000 in
theorem contract (H : Type) (enc : TypeId × Value → H) (W : World) (base : Nat) (args : Array Value) (ds gs : List (DataW H)) (before : List MemPlace)
    (hval : ∀ (j : Nat) t v, Tryd.f7.params[j]? = some t → args[j]? = some v → Value.okWide Tryd.prog W .any base t v)
    (hW : DataW.Whole enc Tryd.prog Tryd.f7.params.toList Rows.wheelNextSpec.vars false W args.toList ds gs before) (hL : laidMetH Tryd.prog Rows.wheelNextRow.laid W) (hS : W.ShapedOpen Tryd.prog) :
    Calls Tryd.prog 7 args W fun e W' => ∃ v, e = .returned v ∧ Rows.wheelNextSpec.post enc Tryd.prog Tryd.f7 false true false false W args v W' := by
  have hW' := hW
  obtain ⟨p, q, hA0, hV, rfl, hfz, hnd⟩ := hW
  have hA : DataW.TrodAll enc Tryd.prog W 0 (fun _ => true) true Tryd.f7.params.toList args.toList ds p := hA0
  rw [Tryd.params7] at hA hval
  obtain ⟨v0, vs0, d0, ds0, p0, q0, hargs, rfl, rfl, h0, r0⟩ := trodAll_cons hA
  obtain ⟨v1, vs1, d1, ds1, p1, q1, rfl, rfl, rfl, h1, r1⟩ := trodAll_cons r0
  obtain ⟨rfl, rfl, rfl⟩ := trodAll_nil r1
  obtain rfl : args = #[v0, v1] := by clear hL hS hW' hval; cases args; simp_all
  obtain ⟨rfl, rfl⟩ := trodVars_none hV
  obtain ⟨a0, rfl, rfl, rfl, w0⟩ := open_int Tryd.underlying3 (hval 0 3 v0 rfl rfl) h0
  obtain ⟨b1, len1, cap1, rfl⟩ := okWide_slice Tryd.underlying48 (hval 1 48 v1 rfl rfl)
  have k1 := h1
  have lt1 : ∀ x ∈ p1, x.block < W.heap.size := by obtain ⟨m, hm⟩ := k1; exact DataW.trod_lt m _ _ _ hm
  obtain ⟨f1, tx1⟩ : ∃ f, Ints .i64 W b1 len1 f := by
    obtain ⟨fuel, hf⟩ := h1
    exact ints_of Tryd.underlying48 Tryd.underlying3 (by kernel_rfl) hf
  clear hA0
  simp only [List.append_nil] at hW'
  refine (walk a0 w0 b1 len1 cap1 f1 W (table hL) tx1).mono fun e W' ⟨he, hg⟩ => ?_
  subst he
  exact ⟨_, rfl, _, _, _, [], _, [], hW', trodAll_cons_mk (shut_bool Tryd.underlying4 _) trodAll_mk0, trodAll_cons_mk (shut_int Tryd.underlying3 w0) (trodAll_cons_mk (Below.trod laidOut (by kernel_rfl) (of_decide_eq_true (by kernel_rfl)) k1 hg lt1) trodAll_mk0), rfl, hg.frame _, fun h => by cases h⟩

theorem reads (os : Os) {H : Type} (enc : TypeId × Value → H) : ∃ places, DataW.whole enc Tryd.prog ((laidWorld os).forCall (fun _ _ => 0) ⟨#[], #[.int .i64 0, .slice none 0 0], []⟩).memory Tryd.f7.params.toList Rows.wheelNextSpec.vars false (#[.int .i64 0, .slice none 0 0] : Array Value).toList 8 = some ([.lit (.int .i64 0), .nil], [], places) :=
  ⟨[], by kernel_rfl⟩

set_option maxRecDepth 100000 in
theorem lifted (os : Os) (started : os.Started) (H : Type) (enc : TypeId × Value → H) (F : Stop.Interp) :
    ReturnsInHanded {} Tryd.checked os 7 .any ((OpenSpec.ofChange Rows.wheelNextSpec).preRow enc Tryd.prog Tryd.f7 Rows.wheelNextRow.domain false Rows.wheelNextRow.laid) (((OpenSpec.ofChange Rows.wheelNextSpec).at F).post enc Tryd.prog Tryd.f7 false true false false) := by
  obtain ⟨places, hx⟩ := reads os enc
  refine returnsInHanded_of_row (C := Tryd.checked) (s := OpenSpec.ofChange Rows.wheelNextSpec) own started (by kernel_rfl) Tryd.func7
    (witness_row_at (enc := enc) (C := Tryd.checked) false (laidWorld os) #[.int .i64 0, .slice none 0 0] (World.laidAll_os _ _ _) (by kernel_rfl) (by kernel_rfl) (by kernel_rfl)
      (OpenSpec.preRow_of_cond 8 hx (by kernel_rfl) (fun k hk => by cases hk) (by kernel_rfl) (laid_met os _))) ?_
  intro W base args ds gs before hval hW _ _ _ hL hS _
  exact contract H enc W base args ds gs before hval hW hL hS

theorem said : Rows.WheelNextSaid :=
  OpenClaim.holds_of_cond 7 Tryd.f7 rfl rfl rfl rfl rfl rfl rfl ⟨rfl, rfl, rfl, rfl, rfl⟩ rfl rfl rfl rfl rfl (by kernel_rfl) Tryd.func7 (by kernel_rfl)
    (of_decide_eq_true (by kernel_rfl)) (by unfold Func.isWrapper; first | (rw [if_pos (by decide +kernel)]; kernel_rfl) | (rw [if_neg (by decide +kernel)]; exact ⟨rfl, rfl⟩))
    (fun os started H enc _ F => by rw [OpenClaim.pre_eq_preRow]; exact lifted os started H enc F)

theorem plain (f : FuncId) (fn : Func) (hf : Tryd.pinned.checked.prog.funcNamed "tompion/tompionlaw06.WheelNext" = some f) (hfn : Tryd.pinned.checked.prog.funcs[f]? = some fn) :
    false = Tryd.pinned.checked.prog.looks [] ∧ ∀ (j : Nat) t, fn.params[j]? = some t → Tryd.pinned.checked.prog.wantsStandIn t = false := by
  obtain rfl : f = 7 := Option.some.inj ((show Tryd.prog.funcNamed "tompion/tompionlaw06.WheelNext" = some 7 by kernel_rfl).symm.trans hf) |>.symm
  obtain rfl : fn = Tryd.f7 := (Option.some.inj (Tryd.func7.symm.trans hfn)).symm
  refine ⟨by kernel_rfl, fun j t ht => ?_⟩
  rw [Tryd.params7] at ht
  have hm := Array.mem_of_getElem? ht
  simp at hm
  replace hm : t = 3 ∨ t = 48 := by first | (rcases hm with e | e | e <;> simp [e]) | (rcases hm with e | e <;> simp [e])
  rcases hm with rfl | rfl
  · exact (show Tryd.prog.wantsStandIn 3 = false by kernel_rfl)
  · exact (show Tryd.prog.wantsStandIn 48 = false by kernel_rfl)

/-- The statement: the card, its tables tied to the program's text. -/
theorem proved : Rows.WheelNextCardSaid :=
  Claim7.holds_tied_plain_at .later [] _ _ _ _ said (fun _ h => by cases h) (by kernel_rfl) (fun _ h => by cases h) wheelNext_row_tie rfl ⟨rfl, rfl⟩ (by kernel_rfl) rfl plain (by kernel_rfl)
#print axioms proved
end Go.Proofs.YthobffeafddonaaDoor.wheelNext
