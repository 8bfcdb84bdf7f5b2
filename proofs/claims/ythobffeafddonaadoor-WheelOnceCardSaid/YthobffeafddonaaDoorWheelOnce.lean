/-
  WheelOnce: everyone comes due once, in time and in order. No condition but what the card lists.
-/
import Derived.Test.YthobffeafddonaaDoorLift
import Derived.Test.YthobffeafddonaaDoorWOnce
import Derived.Deep.DeepCutAuto
import Derived.Deep.CutRange
set_option linter.unusedVariables false
namespace Go.Proofs.YthobffeafddonaaDoor.wheelOnce
open Go.ChangeShapes Go.WideShapes Go.ChangeAt Go.RowKit Whl
open Go.ChangeMaps (open_string shut_string)

theorem kp_put (w : World) (x : Nat) (u v : Value) : Kp (fun k => k = x) w ((w.setCell ⟨x, 0, none⟩ u).setCell ⟨x, 1, none⟩ v) :=
  ⟨rfl, rfl, rfl, by simp [World.setCell], fun k _ hk => (heap_setCell_other _ _ _ _ hk).trans (heap_setCell_other _ _ _ _ hk)⟩
set_option maxRecDepth 100000 in
set_option maxHeartbeats 4000000 in
theorem walk (now : Int) (h1 : (Lit.int .i64 now).wf = true) (sa : Option Addr) (n cap : Nat) (f : Nat → Int) (sb : Option Addr) (n2 cap2 : Nat) (g : Nat → Int) (w : World) (tb : Bru w) (hf : Ints .i64 w sa n f) (hg : Ints .u16 w sb n2 g) :
    Calls Tryd.prog 4 #[.int .i64 now, .slice sa n cap, .slice sb n2 cap2] w fun e w' => e = .returned (.bool true) ∧ Below w.heap.size w w' := by
  obtain ⟨U1, hU1⟩ : ∃ U : Nat, IntKind.u64.wrap now = (U : Int) := ⟨(IntKind.u64.wrap now).toNat, by rw [IntKind.wrap_u64]; omega⟩
  obtain ⟨N, hN⟩ : ∃ N : Nat, (U1 : Int) % 274877906944 = (N : Int) := ⟨U1 % 274877906944, by omega⟩
  have hN8 : (N : Int) < 274877906944 := by omega
  have hpos : 0 < w.heap.size := Nat.lt_of_le_of_lt (Nat.zero_le _) (World.block_lt_of_cell? w _ (tb 0 (by omega)))
  have cw := Lib.hid (fun W (t : Bru W) => awake_any W t)
  have cN := Lib.hid (fun W (hb : w.heap.size ≤ W.heap.size) (t : Bru W) => new_any w.heap.size W (N : Int) N (by omega) hb hpos t)
  have cS := Lib.hid (fun W b l O (id x : Nat) (h : WT w.heap.size W b N l O) hn hid ha hl => set_new w.heap.size W b N l O id x h hn hid ha hl)
  have cA := Lib.hid (fun W b nw l O k h => advance_any w.heap.size W b nw l O k h)
  have hbr : Hid (∀ W, Below w.heap.size w W → Bru W) := fun W k => tb.kp (Kp.ofBelow (O := fun _ => False) k) (fun x hx => hx.elim)
  replace hf := Lib.hid hf
  replace hg := Lib.hid hg
  replace hpos := Lib.hid hpos
  have ca0 := Lib.hid (cw.out w tb)
  clear h1 tb
  by_cases hn : (n : Int) ≤ 300 ∧ (n2 : Int) ≤ 300
  · obtain ⟨hn, hm⟩ := hn
    go_enter Tryd.func4, Tryd.ntmps4
    go_wp2_with (first | simp only [hU1])
    clear hU1 hN
    replace hN8 := Lib.hid hN8
    have hd : decide ((300 : Int) < (n : Int)) = false := decide_eq_false (by omega)
    have hd2 : decide ((300 : Int) < (n2 : Int)) = false := decide_eq_false (by omega)
    replace hn := Lib.hid hn
    replace hm := Lib.hid hm
    refine ca0.out.mono ?_
    rintro e w1 ⟨rfl, k1⟩
    have cn1 := Lib.hid (cN.out w1 k1.size (hbr.out w1 k1))
    replace k1 := Lib.hid k1
    clear ca0 cw
    go_wp2_with fail
    clear hd hd2
    refine cn1.out.mono ?_
    rintro e w2 ⟨rfl, wt1, g2⟩
    have k2 := Lib.hid (k1.out.trans (g2.mono k1.out.size))
    have hal := (Below.refl w2.heap.size w2).alloc (Nat.le_refl _) (.map #[] 0)
    have k3 := Lib.hid (k2.out.trans (hal.mono k2.out.size))
    have T0 : Hid (Lw w.heap.size (w2.alloc (.map #[] 0)) w1.heap.size w2.heap.size N [] [] (fun k => k = w1.heap.size)) := by
      obtain ⟨m, V, F, L, t, hS, _⟩ := wt1.ex
      have h5 := hS.wh.lt
      exact ⟨wt1.below hal, fun k hk => by have := hal.size; omega, ⟨[], IntMap.made w2, ⟨List.Perm.refl _, List.Pairwise.nil, fun p hp => by simp at hp⟩⟩, by omega, k2.out.size⟩
    have hmk := make50
    clear cn1 cN hbr wt1 g2 k1 k2 hal
    generalize hb1 : w1.heap.size = b1 at *
    generalize hlb : w2.heap.size = lb at *
    clear hb1
    go_upto_region 7 with fail
    rw [hlb] at *
    clear hlb hmk
    generalize w2.alloc (.map #[] 0) = w3 at *
    go_wp2_with fail
    go_loopw [41, 9] (fun v vf wr => ∃ (k F : Nat) (l : List ItemN) (O : Nat → Prop), v = .int .i64 k ∧ vf = .int .i64 F ∧ (k : Int) ≤ n ∧ Hid (l.length = k ∧ ∀ p, p ∈ l → p.2 < k ∧ N < p.1 ∧ p.1 ≤ F) ∧ Hid (N ≤ F ∧ F ≤ 412316860416) ∧ Hid (Lw w.heap.size wr b1 lb N l l O) ∧ Hid (Below w.heap.size w wr)) (fun v _ _ => ((n : Int) - intOf v).toNat)
    case atStart => exact ⟨0, N, [], _, rfl, rfl, by omega, ⟨rfl, fun p hp => by simp at hp⟩, by have := hN8.out; unfold Hid; omega, T0, k3⟩
    case round =>
      obtain ⟨k, F, l, O, rfl, rfl, hk, hl, hF, T, kb⟩ := hrel
      clear T0 k3
      by_cases hkn : (k : Int) < n
      · obtain ⟨tb2, to2, rfl, hc0, hz⟩ := hf.out k (by omega)
        have hc : wr.cell? ⟨tb2, to2 + k, none⟩ = some (.int .i64 (f k)) := (kb.out.cell (p := ⟨tb2, to2 + k, none⟩) (World.block_lt_of_cell? w _ hc0)).trans hc0
        clear hc0 hz
        obtain ⟨U, hU⟩ : ∃ U : Nat, IntKind.u64.wrap (f k) = (U : Int) := ⟨(IntKind.u64.wrap (f k)).toNat, by rw [IntKind.wrap_u64]; omega⟩
        obtain ⟨X, hX⟩ : ∃ X : Nat, (U : Int) % 137438953472 = (X : Int) := ⟨U % 137438953472, by omega⟩
        have hX8 : (X : Int) < 137438953472 := by omega
        obtain ⟨M, hM⟩ : ∃ M : Nat, (N : Int) + 1 = (M : Int) := ⟨N + 1, by omega⟩
        obtain ⟨Y, hY⟩ : ∃ Y : Nat, (M : Int) + (X : Int) = (Y : Int) := ⟨M + X, by omega⟩
        obtain ⟨F2, hF2⟩ : ∃ F2 : Nat, max (F : Int) (Y : Int) = (F2 : Int) := ⟨max F Y, by omega⟩
        have hY8 : Hid (N < Y ∧ Y ≤ 412316860416 ∧ F ≤ F2 ∧ Y ≤ F2 ∧ F2 ≤ 412316860416 ∧ N ≤ F2) := by have := hN8.out; have := hF.out; unfold Hid; omega
        have hw1 : IntKind.i64.wrap (M : Int) = (M : Int) := by rw [IntKind.wrap_i64]; have := hN8.out; omega
        have hw2 : IntKind.i64.wrap (Y : Int) = (Y : Int) := by rw [IntKind.wrap_i64]; have := hY8.out; omega
        have hw3 : IntKind.i64.wrap (X : Int) = (X : Int) := by rw [IntKind.wrap_i64]; omega
        have hw4 : IntKind.i64.wrap ((k : Int) + 1) = (k : Int) + 1 := by rw [IntKind.wrap_i64]; have := hn.out; omega
        replace hX8 := Lib.hid hX8
        generalize f k = fk at *
        have hnew : Hid (∀ p, p ∈ l → p.2 ≠ k) := fun p hp e => by have := hl.out.2 p hp; omega
        have hk2 : Hid (k ≤ 1048576) := by have := hn.out; unfold Hid; omega
        have c1 := Lib.hid (cS.out wr b1 l O k Y T.out.wt hnew.out hk2.out (by have := hY8.out; omega) (by have := hl.out.1; have := hn.out; omega))
        have hl2 : Hid ((ins (Y, k) l).length = k + 1 ∧ ∀ p, p ∈ ins (Y, k) l → p.2 < k + 1 ∧ N < p.1 ∧ p.1 ≤ F2) := by
          have h8 := hY8.out
          refine ⟨by rw [ins_len, hl.out.1], fun p hp => ?_⟩
          rcases mem_ins.1 hp with e | e
          · rw [e]; exact ⟨Nat.lt_succ_self _, h8.1, h8.2.2.2.1⟩
          · have := hl.out.2 p e; omega
        go_upto_region 11 with (first | simp only [hX])
        clear hX hU hc
        go_wp2_with fail
        refine c1.out.mono ?_
        rintro e w4 ⟨rfl, O3, A3⟩
        have kb4 := Lib.hid (kb.out.trans (A3.below T.out.wt kb.out.size))
        obtain ⟨O4, T4, _⟩ := T.out.set A3
        obtain ⟨w5, hrun, T5, g5⟩ := T4.put k Y hk2.out hnew.out
        have kb5 := Lib.hid (kb4.out.trans g5)
        replace T5 := Lib.hid T5
        clear c1 A3 T4 kb4 T kb g5
        go_wp2_with fail
        exact ⟨⟨k + 1, F2, _, _, by go_num, rfl, by omega, hl2, by have := hY8.out; unfold Hid; omega, T5, kb5⟩, by simp [intOf]; omega⟩
      · have hk0 : Hid (∀ p, p ∈ l → N < p.1 ∧ p.1 ≤ F) := fun p hp => (hl.out.2 p hp).2
        obtain ⟨hup, hll⟩ := T.out.wt.up
        have hup := Lib.hid hup
        have hll := Lib.hid hll
        have hall : Hid (l.filter (fun p => decide (N < p.1)) = l) := by
          unfold Hid
          rw [List.filter_eq_self]
          intro p hp
          exact decide_eq_true (hk0.out p hp).1
        have T1 : Hid (Lw w.heap.size wr b1 lb N l (l.filter (fun p => decide (N < p.1))) O) := by
          unfold Hid
          rw [hall.out]
          exact T.out
        have hFb : Hid (F ≤ 412316860416) := hF.out.2
        have hNF : Hid (N ≤ F) := hF.out.1
        clear T hl hall hF cS hf hk hN8
        go_wp2_with fail
        go_loopw [13, 12] (fun v va wr => ∃ (i A : Nat) (O : Nat → Prop), v = .int .i64 i ∧ va = .int .i64 A ∧ (i : Int) ≤ (n2 : Int) + 1 ∧ Hid (N ≤ A ∧ A ≤ F ∧ (i = n2 + 1 → A = F)) ∧ Hid (Lw w.heap.size wr b1 lb A l (l.filter (fun p => decide (A < p.1))) O) ∧ Hid (Below w.heap.size w wr)) (fun v _ _ => ((n2 : Int) + 1 - intOf v).toNat)
        case atStart => exact ⟨0, N, O, rfl, rfl, by omega, ⟨Nat.le_refl _, hNF.out, fun e => by omega⟩, T1, kb⟩
        case round =>
          clear T1 kb
          rename_i wr0
          obtain ⟨i, A, O1, rfl, rfl, hi, hA, T, kb⟩ := hrel
          by_cases hle : (i : Int) ≤ n2
          · go_upto_if 76 with fail
            go_cut [14] (fun vt wx => wx = wr ∧ ∃ tt : Nat, vt = .int .i64 tt ∧ Hid (A ≤ tt ∧ tt ≤ F ∧ (i = n2 → tt = F)))
            case first =>
              by_cases hin : (i : Int) < n2
              · obtain ⟨tb2, to2, rfl, hc0, hz⟩ := hg.out i (by omega)
                have hc : wr.cell? ⟨tb2, to2 + i, none⟩ = some (.int .u16 (g i)) := (kb.out.cell (p := ⟨tb2, to2 + i, none⟩) (World.block_lt_of_cell? w _ hc0)).trans hc0
                have hzz : (0 : Int) ≤ g i ∧ g i ≤ 65535 := by
                  simp [Lit.wf] at hz
                  exact hz
                clear hc0 hz
                generalize g i = gi at *
                obtain ⟨S, rfl⟩ : ∃ S : Nat, gi = (S : Int) := ⟨gi.toNat, by omega⟩
                have hi3 : i ≤ 300 := by have := hm.out; omega
                have hii : i * i ≤ 300 * 300 := Nat.mul_le_mul hi3 hi3
                obtain ⟨I2, hI⟩ : ∃ I2 : Nat, i * i = I2 := ⟨_, rfl⟩
                have hI' : (i : Int) * (i : Int) = (I2 : Int) := by rw [← hI]; simp
                obtain ⟨J, hJ⟩ : ∃ J : Nat, 1 + (I2 : Int) = (J : Int) := ⟨1 + I2, by omega⟩
                have hSJ : S * J ≤ 65535 * 90001 := Nat.mul_le_mul (by omega) (by omega)
                obtain ⟨K, hK⟩ : ∃ K : Nat, S * J = K := ⟨_, rfl⟩
                have hK' : (S : Int) * (J : Int) = (K : Int) := by rw [← hK]; simp
                obtain ⟨Y, hY⟩ : ∃ Y : Nat, (A : Int) + (K : Int) = (Y : Int) := ⟨A + K, by omega⟩
                obtain ⟨tt, htt⟩ : ∃ tt : Nat, min (Y : Int) (F : Int) = (tt : Int) := ⟨min Y F, by omega⟩
                have hT : Hid (A ≤ tt ∧ tt ≤ F ∧ (i = n2 → tt = F)) := by have := hA.out; unfold Hid; omega
                have hw1 : IntKind.i64.wrap (I2 : Int) = (I2 : Int) := by rw [IntKind.wrap_i64]; omega
                have hw2 : IntKind.i64.wrap (J : Int) = (J : Int) := by rw [IntKind.wrap_i64]; omega
                have hw3 : IntKind.i64.wrap (K : Int) = (K : Int) := by rw [IntKind.wrap_i64]; omega
                have hw4 : IntKind.i64.wrap (Y : Int) = (Y : Int) := by rw [IntKind.wrap_i64]; have := hA.out; have := hFb.out; omega
                have hw5 : IntKind.i64.wrap (S : Int) = (S : Int) := by rw [IntKind.wrap_i64]; omega
                clear hzz hi3 hii hI hSJ hK
                go_wp2_with fail
                go_meet
                exact ⟨rfl, tt, rfl, hT⟩
              · have hTF : Hid (A ≤ F) := hA.out.2.1
                go_wp2_with fail
                go_meet
                exact ⟨rfl, F, rfl, ⟨hTF.out, Nat.le_refl _, fun _ => rfl⟩⟩
            case rest =>
              obtain ⟨hwc, tt, rfl, hT⟩ := hcut
              rw [hwc]
              clear hwc
              have hmx : Hid (max A (min (tt : Int) 1099511627776).toNat = tt) := by have := hT.out; have := hFb.out; unfold Hid; omega
              have hal := (Below.refl wr.heap.size wr).alloc (Nat.le_refl _) (.cells #[.int .i64 0, .int .i64 0] 52)
              have hbk := Go.heap_alloc_new wr (.cells #[.int .i64 0, .int .i64 0] 52)
              have hwi : IntKind.i64.wrap ((i : Int) + 1) = (i : Int) + 1 := by rw [IntKind.wrap_i64]; have := hm.out; omega
              have Ta := Lib.hid (T.out.below hal)
              have ka := Lib.hid (kb.out.trans (hal.mono kb.out.size))
              have c1 := Lib.hid (cA.out _ b1 A l O1 (tt : Int) Ta.out.wt)
              rw [hmx.out] at c1
              have hsz : Hid ((wr.alloc (.cells #[.int .i64 0, .int .i64 0] 52)).heap.size = wr.heap.size + 1) := by unfold Hid; simp
              replace hal := Lib.hid hal
              replace hbk := Lib.hid hbk
              clear hmx
              go_wp2_with fail
              refine c1.out.mono ?_
              rintro e w4 ⟨v4, O2, rfl, A4, R4, n4⟩
              obtain ⟨O3, T4, h43⟩ := Ta.out.set A4
              have no1 : ¬ O1 wr.heap.size := fun h => by have := T.out.lt _ h; omega
              have hlx : Hid (¬ O3 wr.heap.size) := fun h => by
                rcases A4.own _ (h43 _ h) with e | e
                · exact no1 e
                · have := hsz.out; omega
              have hlb : Hid (lb < wr.heap.size) := T.out.mlt
              have hbk4 : Hid (Bk wr.heap.size w4 (lastTo (comeBy l A tt) 0)) := (A4.kp.block _ (by have := hsz.out; omega) no1).trans hbk.out
              have kb4 := Lib.hid (ka.out.trans (A4.below Ta.out.wt ka.out.size))
              have hq1 : Hid (∀ j (hj : j < (comeBy l A tt).length), A < (comeBy l A tt)[j].1 ∧ (comeBy l A tt)[j].1 ≤ tt) := fun j hj => comeBy_at hj
              have hq2 : Hid (Up (comeBy l A tt)) := comeBy_up hup.out A tt
              have hql : ((comeBy l A tt).length : Int) ≤ 50000 := by have : (comeBy l A tt).length ≤ 50000 := Nat.le_trans (List.length_filter_le _ _) hll.out; omega
              rw [late_split hup.out hT.out.1] at T4
              generalize comeBy l A tt = q at *
              obtain ⟨a4, cap4, rfl, _, _, ha4⟩ := R4.look
              have hB : Hid (wr.heap.size < (wr.alloc (.cells #[.int .i64 0, .int .i64 0] 52)).heap.size) := by have := hsz.out; unfold Hid; omega
              replace ha4 := Lib.hid ha4
              replace T4 := Lib.hid T4
              replace R4 := Lib.hid R4
              clear c1 A4 n4 h43 Ta ka T kb no1 hbk hal hsz
              generalize (wr.alloc (.cells #[.int .i64 0, .int .i64 0] 52)).heap.size = B at *
              generalize wr.heap.size = lx at *
              have hpx : Hid (0 < lx ∧ w.heap.size ≤ lx) := by have := hlb.out; have := T4.out.low; unfold Hid; omega
              go_wp2_with fail
              go_loopw [96] (fun v wx => ∃ j : Nat, v = .int .i64 j ∧ (j : Int) ≤ q.length ∧ Hid (Lw w.heap.size wx b1 lb tt l (q.drop j ++ l.filter (fun p => decide (tt < p.1))) O3) ∧ Hid (Rw B wx (.slice a4 q.length cap4) q) ∧ Hid (Bk lx wx (lastTo q j)) ∧ Hid (Below w.heap.size w wx)) (fun v _ => ((q.length : Int) - intOf v).toNat)
              case atStart => exact ⟨0, rfl, by omega, by rw [List.drop_zero]; exact T4, R4, hbk4, kb4⟩
              case round =>
                clear T4 R4 hbk4 kb4
                rename_i wr1
                obtain ⟨j, rfl, hj, T, R, L, kb⟩ := hrel
                by_cases hjq : (j : Int) < q.length
                · obtain ⟨g0, rfl⟩ := ha4.out j (by omega)
                  obtain ⟨c0, c1⟩ := R.out.cells j (by omega)
                  have hq3 := hq1.out j (by omega)
                  have hq4 := lastTo_lt hq2.out (j := j) (by omega) hq3.1
                  have hq5 := Lib.hid (lastTo_succ (q := q) (j := j) (by omega))
                  have hdr : Hid (q.drop j = q[j] :: q.drop (j + 1)) := List.drop_eq_getElem_cons (by omega)
                  generalize q[j] = p at *
                  obtain ⟨l0, l1, m0, m1⟩ := L.out.cells
                  generalize hL : lastTo q j = la at *
                  replace hL := Lib.hid hL
                  have T5 : Lw w.heap.size wr b1 lb tt l (p :: (q.drop (j + 1) ++ l.filter (fun p => decide (tt < p.1)))) O3 := by
                    have := T.out
                    rw [hdr.out] at this
                    exact this
                  obtain ⟨p0, p1⟩ := p
                  obtain ⟨e0, e1⟩ := la
                  simp only at c0 c1 l0 l1 hq3 hq4
                  have hal := (Below.refl wr.heap.size wr).alloc (Nat.le_refl _) (.cells #[.int .i64 (p0 : Int), .int .i64 (p1 : Int)] 52)
                  have hbk : Bk wr.heap.size (wr.alloc (.cells #[.int .i64 (p0 : Int), .int .i64 (p1 : Int)] 52)) (p0, p1) := Go.heap_alloc_new wr _
                  obtain ⟨hlk, w6, hdel, T6, kp6⟩ := (T5.below hal).del
                  simp only at hlk hdel
                  have hlb2 := T.out.mlt
                  have hbs : wr.heap.size < (wr.alloc (.cells #[.int .i64 (p0 : Int), .int .i64 (p1 : Int)] 52)).heap.size := by simp
                  have hbk6 : Bk wr.heap.size w6 (p0, p1) := (kp6.block _ hbs (by show ¬ wr.heap.size = lb; omega)).trans hbk
                  have hLx : lx < wr.heap.size := World.block_lt_of_cell? wr _ l0
                  have L5 := L.out.below hal
                  have L6 : Bk lx w6 (e0, e1) := (kp6.block _ (by omega) (by show ¬ lx = lb; have := hlb.out; omega)).trans L5
                  obtain ⟨x0, x1, _, _⟩ := hbk.cells
                  obtain ⟨y0, y1, _, _⟩ := hbk6.cells
                  obtain ⟨l5, l6, _, _⟩ := L5.cells
                  obtain ⟨_, _, m5, m6⟩ := L6.cells
                  simp only at x0 x1 y0 y1 l5 l6
                  have kp7 := kp_put w6 lx (.int .i64 (p0 : Int)) (.int .i64 (p1 : Int))
                  have T7 := Lib.hid (T6.kept kp7 (fun x hx => ⟨fun h => hlx.out (hx ▸ h), hx ▸ hpx.out.1, by have := hlb.out; have e : x = lx := hx; omega⟩))
                  have L7 : Hid (Bk lx ((w6.setCell ⟨lx, 0, none⟩ (.int .i64 (p0 : Int))).setCell ⟨lx, 1, none⟩ (.int .i64 (p1 : Int))) (lastTo q (j + 1))) := by
                    unfold Hid
                    rw [hq5.out]
                    exact L6.put (p0, p1)
                  have R7 := Lib.hid ((((R.out.below hal).kp kp6 (fun x hx e => by
                    have h1 := (World.ownsRow.lt R.out x hx).1
                    have h2 := hB.out
                    have h3 := hlb.out
                    have e2 : x = lb := e
                    omega)).kp kp7 (fun x hx e => by
                    have h1 := (World.ownsRow.lt R.out x hx).1
                    have h2 := hB.out
                    have e2 : x = lx := e
                    omega)))
                  have kb7 := Lib.hid (((kb.out.trans (hal.mono kb.out.size)).trans (kp6.below (B := w.heap.size) (fun x hx => hx ▸ T6.low) (Nat.le_trans kb.out.size hal.size))).trans (kp7.below (B := w.heap.size) (fun x hx => hx ▸ hpx.out.2) (Nat.le_trans (Nat.le_trans kb.out.size hal.size) kp6.size)))
                  have b1' : (A : Int) < p0 := by omega
                  have b2' : (p0 : Int) ≤ tt := by omega
                  have b3' : (e0 : Int) ≤ p0 := by omega
                  have hwj : IntKind.i64.wrap ((j : Int) + 1) = (j : Int) + 1 := by rw [IntKind.wrap_i64]; omega
                  have hend : Hid (((j + 1 : Nat) : Int) ≤ q.length) := by unfold Hid; omega
                  clear T5 T6 kp6 kp7 hbk hbk6 L5 L6 hal hdr hq5 hLx hlb2 hbs l0 l1 m0 m1 T R kb L hL hql hwi hq3
                  by_cases hpe : (p0 : Int) = e0
                  · have b4' : (e1 : Int) < p1 := by have := hq4.2 (by omega); omega
                    have hpq : ((p0 : Int) == (e0 : Int)) = true := by rw [hpe]; simp
                    clear hq4 hpe
                    go_wp2_with fail
                    exact ⟨⟨j + 1, by go_num, hend.out, T7, R7, L7, kb7⟩, by simp [intOf]; omega⟩
                  · have hpq : ((p0 : Int) == (e0 : Int)) = false := by rw [beq_eq_false_iff_ne]; exact hpe
                    clear hq4 hpe
                    go_wp2_with fail
                    exact ⟨⟨j + 1, by go_num, hend.out, T7, R7, L7, kb7⟩, by simp [intOf]; omega⟩
                · have hfin : Hid (Lw w.heap.size wr b1 lb tt l (l.filter (fun p => decide (tt < p.1))) O3) := by
                    have := T.out
                    rw [List.drop_of_length_le (by omega), List.nil_append] at this
                    exact this
                  go_wp2_with fail
                  exact ⟨⟨i + 1, tt, O3, by go_num, rfl, by omega, ⟨by have := hT.out; have := hA.out; omega, hT.out.2.1, fun e => hT.out.2.2 (by omega)⟩, hfin, kb⟩, by simp [intOf]; omega⟩
          · have hnone : Hid (l.filter (fun p => decide (A < p.1)) = []) := by
              unfold Hid
              rw [List.filter_eq_nil_iff]
              intro p hp
              have h1 := (hk0.out p hp).2
              have h2 := hA.out.2.2 (by omega)
              simp
              omega
            have hgt : (n2 : Int) < i := by omega
            have hln := T.out.none hnone.out 3
            clear hle
            go_wp2_with fail
            go_ret
            exact ⟨rfl, kb.out⟩
  · have hd : (decide ((300 : Int) < (n : Int)) = true) ∨ (decide ((300 : Int) < (n : Int)) = false ∧ decide ((300 : Int) < (n2 : Int)) = true) := by
      by_cases h : (300 : Int) < n
      · exact .inl (decide_eq_true h)
      · exact .inr ⟨decide_eq_false h, decide_eq_true (by omega)⟩
    clear hn
    rcases hd with hd | ⟨hd, hd2⟩
    all_goals
      go_enter Tryd.func4, Tryd.ntmps4
      go_wp2_with (first | simp only [hU1])
      refine ca0.out.mono ?_
      rintro e w1 ⟨rfl, k1⟩
      have c2 := Lib.hid (cw.out w1 (hbr.out w1 k1))
      replace k1 := Lib.hid k1
      go_wp2_with fail
      refine c2.out.mono ?_
      rintro e w2 ⟨rfl, k2⟩
      go_wp2_with fail
      go_ret
      exact ⟨rfl, k1.out.trans (k2.mono k1.out.size)⟩


set_option maxRecDepth 100000 in
theorem contract (H : Type) (enc : TypeId × Value → H) (W : World) (base : Nat) (args : Array Value) (ds gs : List (DataW H)) (before : List MemPlace)
    (hval : ∀ (j : Nat) t v, Tryd.f4.params[j]? = some t → args[j]? = some v → Value.okWide Tryd.prog W .any base t v)
    (hW : DataW.Whole enc Tryd.prog Tryd.f4.params.toList Rows.wheelOnceSpec.vars false W args.toList ds gs before) (hL : laidMetH Tryd.prog Rows.wheelOnceRow.laid W) (hS : W.ShapedOpen Tryd.prog) :
    Calls Tryd.prog 4 args W fun e W' => ∃ v, e = .returned v ∧ Rows.wheelOnceSpec.post enc Tryd.prog Tryd.f4 false true false false W args v W' := by
  have hW' := hW
  obtain ⟨p, q, hA0, hV, rfl, hfz, hnd⟩ := hW
  have hA : DataW.TrodAll enc Tryd.prog W 0 (fun _ => true) true Tryd.f4.params.toList args.toList ds p := hA0
  rw [Tryd.params4] at hA hval
  obtain ⟨v0, vs0, d0, ds0, p0, q0, hargs, rfl, rfl, h0, r0⟩ := trodAll_cons hA
  obtain ⟨v1, vs1, d1, ds1, p1, q1, rfl, rfl, rfl, h1, r1⟩ := trodAll_cons r0
  obtain ⟨v2, vs2, d2, ds2, p2, q2, rfl, rfl, rfl, h2, r2⟩ := trodAll_cons r1
  obtain ⟨rfl, rfl, rfl⟩ := trodAll_nil r2
  obtain rfl : args = #[v0, v1, v2] := by clear hL hS hW' hval; cases args; simp_all
  obtain ⟨rfl, rfl⟩ := trodVars_none hV
  obtain ⟨a0, rfl, rfl, rfl, w0⟩ := open_int Tryd.underlying3 (hval 0 3 v0 rfl rfl) h0
  obtain ⟨b1, len1, cap1, rfl⟩ := okWide_slice Tryd.underlying48 (hval 1 48 v1 rfl rfl)
  have k1 := h1
  have lt1 : ∀ x ∈ p1, x.block < W.heap.size := by obtain ⟨m, hm⟩ := k1; exact DataW.trod_lt m _ _ _ hm
  obtain ⟨f1, tx1⟩ : ∃ f, Ints .i64 W b1 len1 f := by
    obtain ⟨fuel, hf⟩ := h1
    exact ints_of Tryd.underlying48 Tryd.underlying3 (by kernel_rfl) hf
  obtain ⟨b2, len2, cap2, rfl⟩ := okWide_slice Tryd.underlying49 (hval 2 49 v2 rfl rfl)
  have k2 := h2
  have lt2 : ∀ x ∈ p2, x.block < W.heap.size := by obtain ⟨m, hm⟩ := k2; exact DataW.trod_lt m _ _ _ hm
  obtain ⟨f2, tx2⟩ : ∃ f, Ints .u16 W b2 len2 f := by
    obtain ⟨fuel, hf⟩ := h2
    exact ints_of Tryd.underlying49 Tryd.underlying51 (by kernel_rfl) hf
  clear hA0
  simp only [List.append_nil] at hW'
  refine (walk a0 w0 b1 len1 cap1 f1 b2 len2 cap2 f2 W (table hL) tx1 tx2).mono fun e W' ⟨he, hg⟩ => ?_
  subst he
  exact ⟨_, rfl, _, _, _, [], _, [], hW', trodAll_cons_mk (shut_bool Tryd.underlying4 _) trodAll_mk0, trodAll_cons_mk (shut_int Tryd.underlying3 w0) (trodAll_cons_mk (Below.trod laidOut (by kernel_rfl) (of_decide_eq_true (by kernel_rfl)) k1 hg lt1) (trodAll_cons_mk (Below.trod laidOut (by kernel_rfl) (of_decide_eq_true (by kernel_rfl)) k2 hg lt2) trodAll_mk0)), rfl, hg.frame _, fun h => by cases h⟩

theorem reads (os : Os) {H : Type} (enc : TypeId × Value → H) : ∃ places, DataW.whole enc Tryd.prog ((laidWorld os).forCall (fun _ _ => 0) ⟨#[], #[.int .i64 0, .slice none 0 0, .slice none 0 0], []⟩).memory Tryd.f4.params.toList Rows.wheelOnceSpec.vars false (#[.int .i64 0, .slice none 0 0, .slice none 0 0] : Array Value).toList 8 = some ([.lit (.int .i64 0), .nil, .nil], [], places) :=
  ⟨[], by kernel_rfl⟩

set_option maxRecDepth 100000 in
theorem lifted (os : Os) (started : os.Started) (H : Type) (enc : TypeId × Value → H) (F : Stop.Interp) :
    ReturnsInHanded {} Tryd.checked os 4 .any ((OpenSpec.ofChange Rows.wheelOnceSpec).preRow enc Tryd.prog Tryd.f4 Rows.wheelOnceRow.domain false Rows.wheelOnceRow.laid) (((OpenSpec.ofChange Rows.wheelOnceSpec).at F).post enc Tryd.prog Tryd.f4 false true false false) := by
  obtain ⟨places, hx⟩ := reads os enc
  refine returnsInHanded_of_row (C := Tryd.checked) (s := OpenSpec.ofChange Rows.wheelOnceSpec) own started (by kernel_rfl) Tryd.func4
    (witness_row_at (enc := enc) (C := Tryd.checked) false (laidWorld os) #[.int .i64 0, .slice none 0 0, .slice none 0 0] (World.laidAll_os _ _ _) (by kernel_rfl) (by kernel_rfl) (by kernel_rfl)
      (OpenSpec.preRow_of_cond 8 hx (by kernel_rfl) (fun k hk => by cases hk) (by kernel_rfl) (laid_met os _))) ?_
  intro W base args ds gs before hval hW _ _ _ hL hS _
  exact contract H enc W base args ds gs before hval hW hL hS

theorem said : Rows.WheelOnceSaid :=
  OpenClaim.holds_of_cond 4 Tryd.f4 rfl rfl rfl rfl rfl rfl rfl ⟨rfl, rfl, rfl, rfl, rfl⟩ rfl rfl rfl rfl rfl (by kernel_rfl) Tryd.func4 (by kernel_rfl)
    (of_decide_eq_true (by kernel_rfl)) (by unfold Func.isWrapper; first | (rw [if_pos (by decide +kernel)]; kernel_rfl) | (rw [if_neg (by decide +kernel)]; exact ⟨rfl, rfl⟩))
    (fun os started H enc _ F => by rw [OpenClaim.pre_eq_preRow]; exact lifted os started H enc F)

theorem plain (f : FuncId) (fn : Func) (hf : Tryd.pinned.checked.prog.funcNamed "tompion/tompionlaw06.WheelOnce" = some f) (hfn : Tryd.pinned.checked.prog.funcs[f]? = some fn) :
    false = Tryd.pinned.checked.prog.looks [] ∧ ∀ (j : Nat) t, fn.params[j]? = some t → Tryd.pinned.checked.prog.wantsStandIn t = false := by
  obtain rfl : f = 4 := Option.some.inj ((show Tryd.prog.funcNamed "tompion/tompionlaw06.WheelOnce" = some 4 by kernel_rfl).symm.trans hf) |>.symm
  obtain rfl : fn = Tryd.f4 := (Option.some.inj (Tryd.func4.symm.trans hfn)).symm
  refine ⟨by kernel_rfl, fun j t ht => ?_⟩
  rw [Tryd.params4] at ht
  have hm := Array.mem_of_getElem? ht
  simp at hm
  replace hm : t = 3 ∨ t = 48 ∨ t = 49 := by first | (rcases hm with e | e | e <;> simp [e]) | (rcases hm with e | e <;> simp [e])
  rcases hm with rfl | rfl | rfl
  · exact (show Tryd.prog.wantsStandIn 3 = false by kernel_rfl)
  · exact (show Tryd.prog.wantsStandIn 48 = false by kernel_rfl)
  · exact (show Tryd.prog.wantsStandIn 49 = false by kernel_rfl)

/-- The statement: the card, its tables tied to the program's text. -/
theorem proved : Rows.WheelOnceCardSaid :=
  Claim7.holds_tied_plain_at .later [] _ _ _ _ said (fun _ h => by cases h) (by kernel_rfl) (fun _ h => by cases h) wheelOnce_row_tie rfl ⟨rfl, rfl⟩ (by kernel_rfl) rfl plain (by kernel_rfl)
#print axioms proved
end Go.Proofs.YthobffeafddonaaDoor.wheelOnce
