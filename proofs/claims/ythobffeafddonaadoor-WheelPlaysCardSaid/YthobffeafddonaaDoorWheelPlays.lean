/-
  WheelPlays: in every order of calls those are due, and come due, that the document says. No condition but what the card lists.
-/
import Derived.Test.YthobffeafddonaaDoorLift
import Derived.Test.YthobffeafddonaaDoorWOpen
import Derived.Test.YthobffeafddonaaDoorWNone
import Derived.BigQuiet
import Derived.Deep.CutBlock
import Derived.Deep.DeepCutAuto
import Derived.Deep.CutRange
import Derived.Deep.RegionHeld3
set_option linter.unusedVariables false
namespace Go.Proofs.YthobffeafddonaaDoor.wheelPlays
open Go.ChangeShapes Go.WideShapes Go.ChangeAt Go.RowKit Whl
open Go.ChangeMaps (open_string shut_string)

theorem come_len {l : List ItemN} {a b : Nat} (h : l.length ≤ 1000) : (comeBy l a b).length ≤ 1000000 := by
  unfold comeBy
  exact Nat.le_trans (List.length_filter_le _ _) (by omega)


theorem now_q {base : Nat} {w : World} {b now : Nat} {l : List ItemN} {O : Nat → Prop} (n : Nat) (h : WT base w b now l O) : Calls Tryd.prog 21 #[.pointer (some ⟨b, 0, none⟩)] (w.drewN n) fun e w' => e = .returned (.int .i64 now) ∧ ∃ m, w' = w.drewN m :=
  (now_any base _ b now l O (h.below (below_drewNi (Below.refl _ _) n))).mono fun _ _ ⟨he, hw⟩ => ⟨he, n, hw.symm⟩
theorem at_some2 {base : Nat} (w : World) (b now : Nat) (l : List ItemN) (O : Nat → Prop) (a id : Nat) (ii : Int) (h : WT base w b now l O) (hp : (a, id) ∈ l) (he : (id : Int) = ii) :
    Calls Tryd.prog 23 #[.pointer (some ⟨b, 0, none⟩), .int .i64 ii] w fun e w' => e = .returned (.tuple #[.int .i64 a, .bool true]) ∧ w = w' := by
  subst he
  exact at_some base w b now l O a id h hp
theorem len_q {base : Nat} {w : World} {b now : Nat} {l : List ItemN} {O : Nat → Prop} (n : Nat) (h : WT base w b now l O) : Calls Tryd.prog 22 #[.pointer (some ⟨b, 0, none⟩)] (w.drewN n) fun e w' => e = .returned (.int .i64 l.length) ∧ ∃ m, w' = w.drewN m :=
  (len_any base _ b now l O (h.below (below_drewNi (Below.refl _ _) n))).mono fun _ _ ⟨he, hw⟩ => ⟨he, n, hw.symm⟩

set_option maxRecDepth 100000 in
set_option maxHeartbeats 20000000 in
theorem walk_short (now : Int) (sa : Option Addr) (n cap : Nat) (f : Nat → Int × Int × Int) (w : World) (tb : Bru w) (hf : Ops3 w sa n f) (hn : n ≤ 400) :
    Calls Tryd.prog 3 #[.int .i64 now, .slice sa n cap] w fun e w' => e = .returned (.bool true) ∧ Below w.heap.size w w' := by
  obtain ⟨N, hN⟩ : ∃ N : Nat, min (max now 0) 1099511627776 = (N : Int) := ⟨(min (max now 0) 1099511627776).toNat, by omega⟩
  have hpos : 0 < w.heap.size := Nat.lt_of_le_of_lt (Nat.zero_le _) (World.block_lt_of_cell? w _ (tb 0 (by omega)))
  have cN := Lib.hid (fun W (hb : w.heap.size ≤ W.heap.size) (t : Bru W) => new_any w.heap.size W now N hN hb hpos t)
  have cM := Lib.hid (fun W (hb : w.heap.size ≤ W.heap.size) => refNew w.heap.size now N W hN hb)
  have hbr : Hid (∀ W, Below w.heap.size w W → Bru W) := fun W k => tb.kp (Kp.ofBelow (O := fun _ => False) k) (fun x hx => hx.elim)
  have ca := Lib.hid (awake_any w tb)
  replace hf := Lib.hid hf
  replace hN := Lib.hid hN
  replace hpos := Lib.hid hpos
  have hd : decide ((400 : Int) < (n : Int)) = false := by simp; omega
  have hn0 := Lib.hid hn
  clear tb hn
  go_enter Tryd.func3, Tryd.ntmps3
  go_wp2_with fail
  refine ca.out.mono ?_
  rintro e w1 ⟨rfl, k1⟩
  replace k1 := Lib.hid k1
  go_wp2_with fail
  refine (cN.out _ k1.out.size (hbr.out _ k1.out)).mono ?_
  rintro e w2 ⟨rfl, h2, k2⟩
  have b2 := Lib.hid (k1.out.trans (k2.mono k1.out.size))
  go_wp2_with fail
  refine (cM.out _ b2.out.size).mono ?_
  rintro e w3 ⟨rfl, r3, k3⟩
  have b3 := Lib.hid (b2.out.trans (k3.mono b2.out.size))
  have hb12 : w1.heap.size < w2.heap.size := by
    obtain ⟨m, V, F, L, t, hS, _⟩ := h2.ex
    exact hS.wh.lt
  have hs23 := k3.size
  have I0 : Hid (∃ (T : Nat) (l : List ItemN) (O : Nat → Prop) (p : Option Addr) (cp : Nat), WT w.heap.size w3 w1.heap.size T l O ∧ Rv w.heap.size w3 w2.heap.size T l p cp ∧ (∀ x, O x → x < w3.heap.size) ∧ ¬ O w2.heap.size ∧ (∀ g, (Value.slice p 0 0).ownBlock = some g → ¬ O g) ∧ Below w.heap.size w w3) :=
    ⟨N, [], fun k => k = w1.heap.size, none, 0, h2.below k3, r3, fun x hx => by rw [hx]; omega, fun e => by have e2 : w2.heap.size = w1.heap.size := e; omega, fun g hg => by simp [Value.ownBlock] at hg, b3.out⟩
  clear h2 r3 k2 k3 b2 b3 k1 ca cN cM hb12 hs23
  generalize w1.heap.size = b at *
  generalize w2.heap.size = r at *
  go_wp2_with fail
  go_loopw [29] (fun v wr => ∃ k : Nat, v = .int .i64 k ∧ (k : Int) ≤ n ∧ Hid (∃ (T : Nat) (l : List ItemN) (O : Nat → Prop) (p : Option Addr) (cp : Nat), WT w.heap.size wr b T l O ∧ Rv w.heap.size wr r T l p cp ∧ (∀ x, O x → x < wr.heap.size) ∧ ¬ O r ∧ (∀ g, (Value.slice p 0 0).ownBlock = some g → ¬ O g) ∧ Below w.heap.size w wr)) (fun v _ => ((n : Int) - intOf v).toNat)
  case atStart => exact ⟨0, rfl, by omega, I0⟩
  case round =>
    obtain ⟨k, rfl, hk, hI⟩ := hrel
    obtain ⟨T, l, O, p, cp, h1, h2, h3, h4, h5, h6⟩ := hI.out
    clear I0 hI
    by_cases hkn : (k : Int) < n
    · obtain ⟨y, off, rfl, c0, c1, c2, z0, z1, z2⟩ := (hf.out.keep h6) k (by omega)
      generalize (f k).1 = kk at *
      generalize (f k).2.1 = ii at *
      generalize (f k).2.2 = aa at *
      have B5 : Hid (∃ O3, BQ w.heap.size w (wr.alloc (.cells #[.int .i64 kk, .int .i64 ii, .int .i64 aa] 29)) b r wr.heap.size T l T l O3 p cp kk ii aa) := by
        have z5 : Below wr.heap.size wr (wr.alloc (.cells #[.int .i64 kk, .int .i64 ii, .int .i64 aa] 29)) := (Below.refl _ _).alloc (Nat.le_refl _) _
        exact ⟨O, h1.below z5, h2.below z5, fun x hx => Nat.lt_of_lt_of_le (h3 x hx) z5.size, h4, h5, Go.heap_alloc_new wr _, fun e => by have := h3 _ e; omega, h6.trans (z5.mono h6.size), Nat.le_refl _⟩
      obtain ⟨O3, B6⟩ := B5.out
      have d0 := B6.c0
      replace B6 := Lib.hid B6
      clear B5 h1 h2 h3 h4 h5 h6
      go_upto_block 2 with fail
      clear c0 c1 c2 d0
      generalize wr.alloc (.cells #[.int .i64 kk, .int .i64 ii, .int .i64 aa] 29) = w5 at *
      generalize wr.heap.size = q at *
      go_cut [] (fun wx => ∃ (T7 : Nat) (l7 : List ItemN) (O7 : Nat → Prop) (p7 : Option Addr) (c7 : Nat), Hid (BQ w.heap.size w wx b r q T7 l7 T7 l7 O7 p7 c7 kk ii aa))
      case first =>
        have hwf1 := (wf_i64 z1)
        by_cases k1 : kk = 1
        · as_aux_lemma =>
          have e1 : (kk == 1) = true := by simp [k1]
          replace k1 := Lib.hid k1
          obtain ⟨hids, hsm⟩ := B6.out.wt.ids
          obtain ⟨zz, l7, cA, cB⟩ := set_both l T ii aa hids hsm B6.out.wt.up.1 B6.out.rv.len
          replace cA := Lib.hid cA
          replace cB := Lib.hid cB
          have d1 := B6.out.c1
          have d2 := B6.out.c2
          have B6d : Hid (BQ w.heap.size w w5.drew b r q T l T l O3 p cp kk ii aa) := B6.out.below ((Below.refl _ _).drew)
          clear hids hsm
          go_wp2_with fail
          go_region_held3 (fun w' => w'.cell? ⟨q, 1, none⟩ = some (.int .i64 ii) ∧ w'.cell? ⟨q, 2, none⟩ = some (.int .i64 aa)) (first | exact ⟨d1, d2⟩ | exact ⟨f1, f2⟩ | exact ⟨g1, g2⟩ | go_keep)
            (first
              | (go_at_call 11; refine (cA.out _ _ _ _ B6d.out.wt).mono ?_; rintro e w6 ⟨rfl, O5, A5⟩; obtain ⟨O6, B8, _⟩ := B6d.out.prog A5; have f1 := B8.c1; have f2 := B8.c2; have B8 := Lib.hid B8; clear A5)
              | (go_at_call 12; refine (cB.out _ _ _ _ _ B8.out.rv).mono ?_; rintro e w7 ⟨rfl, p7, c7, rv7, kp7, fr7⟩; have B9 := B8.out.doc rv7 kp7 fr7; have g1 := B9.c1; have g2 := B9.c2; have B9 := Lib.hid B9; clear rv7 kp7 fr7))
          clear d1 d2 f1 f2 g1 g2 cA cB B6 B6d B8
          go_wp2_with fail
          go_meet
          exact ⟨T, l7, O6, p7, c7, B9⟩
        · have e1 : (kk == 1) = false := by simpa using k1
          replace k1 := Lib.hid k1
          by_cases k2 : kk = 2
          · as_aux_lemma =>
            have e2 : (kk == 2) = true := by simp [k2]
            replace k2 := Lib.hid k2
            obtain ⟨hids, hsm⟩ := B6.out.wt.ids
            obtain ⟨zz, l7, cA, cB⟩ := rem_both l T ii hwf1.1 hwf1.2 hids B6.out.wt.up.1
            replace cA := Lib.hid cA
            replace cB := Lib.hid cB
            have d1 := B6.out.c1
            have B6d : Hid (BQ w.heap.size w w5.drew b r q T l T l O3 p cp kk ii aa) := B6.out.below ((Below.refl _ _).drew)
            clear hids hsm
            go_wp2_with fail
            go_region_held3 (fun w' => w'.cell? ⟨q, 1, none⟩ = some (.int .i64 ii)) (first | exact d1 | exact f1 | exact g1 | go_keep)
              (first
                | (go_at_call 13; refine (cA.out _ _ _ _ B6d.out.wt).mono ?_; rintro e w6 ⟨rfl, O5, A5⟩; obtain ⟨O6, B8, _⟩ := B6d.out.prog A5; have f1 := B8.c1; have B8 := Lib.hid B8; clear A5)
                | (go_at_call 14; refine (cB.out _ _ _ _ _ B8.out.rv).mono ?_; rintro e w7 ⟨rfl, p7, c7, rv7, kp7, fr7⟩; have B9 := B8.out.doc rv7 kp7 fr7; have g1 := B9.c1; have B9 := Lib.hid B9; clear rv7 kp7 fr7))
            clear d1 f1 g1 cA cB B6 B6d B8
            cases zz
            all_goals
              go_wp2_with fail
              go_meet
              exact ⟨T, l7, O6, p7, c7, B9⟩
          · have e2 : (kk == 2) = false := by simpa using k2
            replace k2 := Lib.hid k2
            have hlen : l.length ≤ 1000 := B6.out.rv.len
            have fin34 : Hid (∀ (W : World) (x : Int), BQ w.heap.size w W b r q T l T l O3 p cp kk ii aa → Calls Tryd.prog 16 #[.pointer (some ⟨b, 0, none⟩), .int .i64 x] W fun e w' => ∃ v O', e = .returned v ∧ BQ w.heap.size w w' b r q (max T (min x 1099511627776).toNat) l T l O' p cp kk ii aa ∧ Rw W.heap.size w' v (comeBy l T (max T (min x 1099511627776).toNat)) ∧ r < W.heap.size) := fun W x B => by
              refine (advance_any _ W b T l O3 x B.wt).mono ?_
              rintro e w' ⟨v, O', he, A, R, _⟩
              obtain ⟨O6, B8, _⟩ := B.prog A
              exact ⟨v, O6, he, B8, R, B.rv.lt⟩
            by_cases k34 : kk = 3 ∨ kk = 4
            · have d0 := B6.out.c0
              have d2 := B6.out.c2
              have c0r := B6.out.rv.c0
              by_cases k3 : kk = 3
              · as_aux_lemma =>
                have e3 : (kk == 3) = true := by simp [k3]
                have e4 : (kk == 4) = false := by simp [k3]
                replace k3 := Lib.hid k3
                replace k34 := Lib.hid k34
                go_wp2_with fail
                clear d0 d2 c0r
                refine (fin34.out _ aa B6.out).mono ?_
                rintro e w6 ⟨v6, O6, rfl, B8, R6, hr6⟩
                replace B8 := Lib.hid B8
                replace R6 := Lib.hid R6
                go_wp2_with fail
                refine (refAdv _ _ r T l p cp _ B8.out.rv).mono ?_
                rintro e w7 ⟨v7, rfl, R7, rv7, kp7⟩
                have B9 := Lib.hid (B8.out.doc rv7 kp7 (Or.inr rfl))
                have R6' := Lib.hid (own_samei R6.out fun g hg => kp7.block g (R6.out.lt g hg).2 (fun e => by have := (R6.out.lt g hg).1; omega))
                replace R7 := Lib.hid R7
                clear rv7 kp7 B8 R6 fin34
                go_wp2_with fail
                refine (same_any _ _ v6 v7 _ _ _ R6'.out R7.out (come_len hlen) (come_len hlen) true (by simp)).mono ?_
                rintro e w8 ⟨rfl, k8⟩
                have B10 := Lib.hid (B9.out.below k8)
                clear k8 B9 R6' R7
                go_wp2_with fail
                go_meet
                exact ⟨_, l, O6, p, cp, B10⟩
              · as_aux_lemma =>
                have e3 : (kk == 3) = false := by simpa using k3
                have e4 : (kk == 4) = true := by simp; omega
                replace k3 := Lib.hid k3
                replace k34 := Lib.hid k34
                go_wp2_with fail
                go_quiet (fail)
                have B6q := Lib.hid (B6.out.below (below_drewNi (Below.refl _ _) nq))
                clear d0 d2 c0r B6
                generalize w5.drewN nq = w5q at *
                go_wp2_with fail
                refine (fin34.out _ _ B6q.out).mono ?_
                rintro e w6 ⟨v6, O6, rfl, B8, R6, hr6⟩
                replace B8 := Lib.hid B8
                replace R6 := Lib.hid R6
                go_wp2_with fail
                refine (refAdv _ _ r T l p cp _ B8.out.rv).mono ?_
                rintro e w7 ⟨v7, rfl, R7, rv7, kp7⟩
                have B9 := Lib.hid (B8.out.doc rv7 kp7 (Or.inr rfl))
                have R6' := Lib.hid (own_samei R6.out fun g hg => kp7.block g (R6.out.lt g hg).2 (fun e => by have := (R6.out.lt g hg).1; omega))
                replace R7 := Lib.hid R7
                clear rv7 kp7 B8 R6 fin34
                go_wp2_with fail
                refine (same_any _ _ v6 v7 _ _ _ R6'.out R7.out (come_len hlen) (come_len hlen) true (by simp)).mono ?_
                rintro e w8 ⟨rfl, k8⟩
                have B10 := Lib.hid (B9.out.below k8)
                clear k8 B9 R6' R7
                go_wp2_with fail
                go_meet
                exact ⟨_, l, O6, p, cp, B10⟩
            · have e3 : (kk == 3) = false := by simp; omega
              have e4 : (kk == 4) = false := by simp; omega
              replace k34 := Lib.hid k34
              by_cases k5 : kk = 5
              · as_aux_lemma =>
                have e5 : (kk == 5) = true := by simp [k5]
                replace k5 := Lib.hid k5
                have hwf2 := (wf_i64 z2)
                have hup := Lib.hid B6.out.wt.up.1
                have B6d : Hid (BQ w.heap.size w w5.drew b r q T l T l O3 p cp kk ii aa) := B6.out.below ((Below.refl _ _).drew)
                have d2 := B6.out.c2
                have hll : ((dueBy l T).take aa.toNat).length ≤ 1000000 := by
                  rw [List.length_take]
                  have : (dueBy l T).length ≤ l.length := List.length_filter_le _ _
                  omega
                go_wp2_with fail
                go_region_held3 (fun w' => w'.cell? ⟨q, 2, none⟩ = some (.int .i64 aa)) (first | exact d2 | exact f2 | exact g2 | exact i2 | go_keep)
                  (first
                    | (go_at_call 18; refine (due_any _ _ b T l O3 aa B6d.out.wt).mono ?_; rintro e w6 ⟨v6, rfl, R6, k6⟩; have B8 := B6d.out.below k6; have f2 := B8.c2; have B8 := Lib.hid B8; have R6 := Lib.hid R6; clear k6)
                    | (go_at_call 19; refine (refDue _ _ r T l p cp aa hwf2.2 B8.out.rv hup.out).mono ?_; rintro e w7 ⟨v7, rfl, R7, k7⟩; have B9 := B8.out.below k7; have g2 := B9.c2; have B9 := Lib.hid B9; have R7 := Lib.hid R7; have R6' := Lib.hid (R6.out.below k7); clear k7)
                    | (go_at_call 15; refine (same_any _ _ v6 v7 _ _ _ R6'.out R7.out hll hll true (by simp)).mono ?_; rintro e w8 ⟨rfl, k8⟩; have B10 := B9.out.below k8; have i2 := B10.c2; have B10 := Lib.hid B10; clear k8))
                clear d2 f2 g2 i2 R6 R6' R7 B6 B6d B8 B9
                go_wp2_with fail
                go_meet
                exact ⟨T, l, O3, p, cp, B10⟩
              · as_aux_lemma =>
                have e5 : (kk == 5) = false := by simpa using k5
                replace k5 := Lib.hid k5
                go_wp2_with fail
                go_meet
                exact ⟨T, l, O3, p, cp, B6⟩
      case rest =>
        obtain ⟨T7, l7, O7, p7, c7, B7⟩ := hcut
        have hwf := Lib.hid (wf_i64 z1)
        go_wp2_with fail
        rcases l7 with _ | ⟨p0, r0⟩
        · as_aux_lemma =>
          refine (next_none _ wc b T7 O7 B7.out.wt).mono ?_
          rintro e w8 ⟨rfl, k8⟩
          have B8n := Lib.hid (B7.out.below k8)
          have c0r := B8n.out.rv.c0
          have c1r := B8n.out.rv.c1
          rw [List.length_nil] at c1r
          have cNow := Lib.hid (fun n => now_q n B8n.out.wt)
          have cLen := Lib.hid (fun n => len_q n B8n.out.wt)
          rw [List.length_nil] at cLen
          have hTT : ((T7 : Int) == (T7 : Int)) = true := by simp
          clear B7 k8
          go_wp2_with fail
          go_quiet (first
              | (go_at_call 21; exact cNow.out _)
              | (go_at_call 22; exact cLen.out _))
          have B9 : Hid (BQ w.heap.size w (w8.drewN nq) b r q T7 [] T7 [] O7 p7 c7 kk ii aa) := B8n.out.below (below_drewNi (Below.refl _ _) nq)
          clear c0r c1r B8n cNow cLen
          generalize w8.drewN nq = w9 at *
          obtain ⟨L, hL⟩ : ∃ L : List ItemN, L = ([] : List ItemN) := ⟨_, rfl⟩
          rw [← hL] at B9
          clear hL
          obtain ⟨hids, hsm⟩ := B9.out.wt.ids
          have hup := B9.out.wt.up.1
          have d1 := B9.out.c1
          have c1r := B9.out.rv.c1
          have hwfi := hwf.out
          have hlen := B9.out.rv.len
          rcases id_case hids hup ii with hno | ⟨i, hi, he, hfirst, _⟩
          · as_aux_lemma =>
            replace hno := Lib.hid hno
            have cAt := Lib.hid (at_none _ w9 b T7 L O7 ii hwfi.1 hwfi.2 B9.out.wt hno.out)
            clear hids hsm hup hwfi
            go_wp2_with fail
            refine cAt.out.mono ?_
            rintro e w' ⟨rfl, rfl⟩
            clear cAt
            go_wp2_with fail
            go_loopw [165, 12] (fun v vi wr => ∃ j : Nat, v = .int .i64 j ∧ (j : Int) ≤ L.length ∧ vi = .bool false ∧ Hid (BQ w.heap.size w wr b r q T7 L T7 L O7 p7 c7 kk ii aa)) (fun v _ _ => ((L.length : Int) - intOf v).toNat)
            case atStart => exact ⟨0, rfl, by omega, rfl, B9⟩
            case round =>
              obtain ⟨j, rfl, hj, rfl, Bk⟩ := hrel
              clear B9 d1 c1r
              by_cases hjn : (j : Int) < L.length
              · have hjl : j < L.length := by omega
                obtain ⟨g2, hp, ca, cb⟩ := Bk.out.rv.at j hjl
                subst hp
                have e2 : (((L[j].2 : Nat) : Int) == ii) = false := by simpa using hno.out _ (List.getElem_mem hjl)
                generalize L[j].2 = y2 at *
                generalize L[j].1 = y1 at *
                have z5 : Below wr.heap.size wr (wr.alloc (.cells #[.int .i64 (y2 : Int), .int .i64 (y1 : Int)] 45)) := (Below.refl _ _).alloc (Nat.le_refl _) _
                have Bk2 := Lib.hid (Bk.out.below z5)
                have d1 := Bk2.out.c1
                have hj0 : (0 : Int) ≤ (j : Int) := by omega
                clear z5 Bk
                go_wp2_with fail
                exact ⟨⟨j + 1, by go_num, by omega, rfl, Bk2⟩, by simp [intOf]; omega⟩
              · have hj2 : j = L.length := by omega
                have hn1 := hn0.out
                go_wp2_with fail
                exact ⟨⟨k + 1, by go_num, by omega, ⟨T7, L, O7, _, c7, Bk.out.wt, Bk.out.rv, Bk.out.lt, Bk.out.nr, Bk.out.ng, Bk.out.bel⟩⟩, by simp [intOf]; omega⟩
          · as_aux_lemma =>
            have hil := Lib.hid hi
            have cAt0 := at_some2 w9 b T7 L O7 L[i].1 L[i].2 ii B9.out.wt (List.getElem_mem hi) he
            replace cAt0 := Lib.hid cAt0
            obtain ⟨A, hA⟩ : ∃ A : Nat, A = L[i].1 := ⟨_, rfl⟩
            rw [← hA] at cAt0
            replace hA := Lib.hid hA
            replace he := Lib.hid he
            replace hfirst := Lib.hid hfirst
            clear hids hsm hup hwfi
            go_wp2_with fail
            refine cAt0.out.mono ?_
            rintro e w' ⟨rfl, rfl⟩
            clear cAt0
            go_wp2_with fail
            go_loopw [165, 12] (fun v vi wr => ∃ j : Nat, v = .int .i64 j ∧ (j : Int) ≤ L.length ∧ (vi = .bool false ∧ j ≤ i ∨ vi = .bool true ∧ i < j) ∧ Hid (BQ w.heap.size w wr b r q T7 L T7 L O7 p7 c7 kk ii aa)) (fun v _ _ => ((L.length : Int) - intOf v).toNat)
            case atStart => exact ⟨0, rfl, by omega, .inl ⟨rfl, by omega⟩, B9⟩
            case round =>
              obtain ⟨j, rfl, hj, hvi, Bk⟩ := hrel
              clear B9 d1 c1r
              by_cases hjn : (j : Int) < L.length
              · have hjl : j < L.length := by omega
                obtain ⟨g2, hp, ca, cb⟩ := Bk.out.rv.at j hjl
                subst hp
                have hj0 : (0 : Int) ≤ (j : Int) := by omega
                have z5 : Below wr.heap.size wr (wr.alloc (.cells #[.int .i64 (L[j].2 : Int), .int .i64 (L[j].1 : Int)] 45)) := (Below.refl _ _).alloc (Nat.le_refl _) _
                have Bk2 := Lib.hid (Bk.out.below z5)
                have d1 := Bk2.out.c1
                clear z5 Bk
                rcases hvi with ⟨rfl, hji⟩ | ⟨rfl, hji⟩
                · by_cases hjeq : j = i
                  · subst hjeq
                    have e2 : (((L[j].2 : Nat) : Int) == ii) = true := by rw [beq_iff_eq]; exact he.out
                    have e3 : (((L[j].1 : Nat) : Int) == (A : Int)) = true := by simp [hA.out]
                    clear hA hfirst he
                    generalize L[j].2 = y2 at *
                    generalize L[j].1 = y1 at *
                    go_wp2_with fail
                    exact ⟨⟨j + 1, by go_num, by omega, .inr ⟨rfl, by omega⟩, Bk2⟩, by simp [intOf]; omega⟩
                  · have e2 : (((L[j].2 : Nat) : Int) == ii) = false := by simpa using hfirst.out j (by omega)
                    clear hA hfirst he
                    generalize L[j].2 = y2 at *
                    generalize L[j].1 = y1 at *
                    go_wp2_with fail
                    exact ⟨⟨j + 1, by go_num, by omega, .inl ⟨rfl, by omega⟩, Bk2⟩, by simp [intOf]; omega⟩
                · clear hA hfirst he
                  generalize L[j].2 = y2 at *
                  generalize L[j].1 = y1 at *
                  go_wp2_with fail
                  exact ⟨⟨j + 1, by go_num, by omega, .inr ⟨rfl, by omega⟩, Bk2⟩, by simp [intOf]; omega⟩
              · have hj2 : j = L.length := by omega
                rcases hvi with ⟨rfl, hji⟩ | ⟨rfl, hji⟩
                · exact absurd hil.out (by omega)
                · have hn1 := hn0.out
                  go_wp2_with fail
                  exact ⟨⟨k + 1, by go_num, by omega, ⟨T7, L, O7, _, c7, Bk.out.wt, Bk.out.rv, Bk.out.lt, Bk.out.nr, Bk.out.ng, Bk.out.bel⟩⟩, by simp [intOf]; omega⟩
        · as_aux_lemma =>
          refine (next_some _ wc b T7 p0 r0 O7 B7.out.wt).mono ?_
          rintro e w8 ⟨rfl, k8⟩
          have B8n := Lib.hid (B7.out.below k8)
          have c0r := B8n.out.rv.c0
          have c1r := B8n.out.rv.c1
          obtain ⟨g, hp, ca, cb⟩ := B8n.out.rv.at 0 (by simp)
          subst hp
          simp only [List.getElem_cons_zero, Nat.zero_mul, Nat.zero_add, List.length_cons] at ca cb c1r
          have cNow := Lib.hid (fun n => now_q n B8n.out.wt)
          have cLen := Lib.hid (fun n => len_q n B8n.out.wt)
          simp only [List.length_cons] at cLen
          obtain ⟨R, hR⟩ : ∃ R : Nat, R = r0.length + 1 := ⟨_, rfl⟩
          rw [← hR] at c1r cLen
          have hRp : decide (0 < R) = true := by simp; omega
          have hR0 : (0 : Int) < (R : Int) := by omega
          replace hR := Lib.hid hR
          have hlz : decide ((R : Int) < 9223372036854775808) = true ∨ True := Or.inr trivial
          clear B7 k8 hlz
          go_wp2_with fail
          go_quiet (first
              | (go_at_call 21; exact cNow.out _)
              | (go_at_call 22; exact cLen.out _))
          have B9 : Hid (BQ w.heap.size w (w8.drewN nq) b r q T7 (p0 :: r0) T7 (p0 :: r0) O7 (some ⟨g, 0, none⟩) c7 kk ii aa) := B8n.out.below (below_drewNi (Below.refl _ _) nq)
          clear c0r c1r ca cb B8n cNow cLen
          generalize w8.drewN nq = w9 at *
          obtain ⟨L, hL⟩ : ∃ L : List ItemN, L = (p0 :: r0) := ⟨_, rfl⟩
          rw [← hL] at B9
          clear hL
          obtain ⟨hids, hsm⟩ := B9.out.wt.ids
          have hup := B9.out.wt.up.1
          have d1 := B9.out.c1
          have c1r := B9.out.rv.c1
          have hwfi := hwf.out
          have hlen := B9.out.rv.len
          rcases id_case hids hup ii with hno | ⟨i, hi, he, hfirst, _⟩
          · as_aux_lemma =>
            replace hno := Lib.hid hno
            have cAt := Lib.hid (at_none _ w9 b T7 L O7 ii hwfi.1 hwfi.2 B9.out.wt hno.out)
            clear hids hsm hup hwfi
            go_wp2_with fail
            refine cAt.out.mono ?_
            rintro e w' ⟨rfl, rfl⟩
            clear cAt
            go_wp2_with fail
            go_loopw [165, 12] (fun v vi wr => ∃ j : Nat, v = .int .i64 j ∧ (j : Int) ≤ L.length ∧ vi = .bool false ∧ Hid (BQ w.heap.size w wr b r q T7 L T7 L O7 (some ⟨g, 0, none⟩) c7 kk ii aa)) (fun v _ _ => ((L.length : Int) - intOf v).toNat)
            case atStart => exact ⟨0, rfl, by omega, rfl, B9⟩
            case round =>
              obtain ⟨j, rfl, hj, rfl, Bk⟩ := hrel
              clear B9 d1 c1r
              by_cases hjn : (j : Int) < L.length
              · have hjl : j < L.length := by omega
                obtain ⟨g2, hp, ca, cb⟩ := Bk.out.rv.at j hjl
                cases hp
                have e2 : (((L[j].2 : Nat) : Int) == ii) = false := by simpa using hno.out _ (List.getElem_mem hjl)
                generalize L[j].2 = y2 at *
                generalize L[j].1 = y1 at *
                have z5 : Below wr.heap.size wr (wr.alloc (.cells #[.int .i64 (y2 : Int), .int .i64 (y1 : Int)] 45)) := (Below.refl _ _).alloc (Nat.le_refl _) _
                have Bk2 := Lib.hid (Bk.out.below z5)
                have d1 := Bk2.out.c1
                have hj0 : (0 : Int) ≤ (j : Int) := by omega
                clear z5 Bk
                go_wp2_with fail
                exact ⟨⟨j + 1, by go_num, by omega, rfl, Bk2⟩, by simp [intOf]; omega⟩
              · have hj2 : j = L.length := by omega
                have hn1 := hn0.out
                go_wp2_with fail
                exact ⟨⟨k + 1, by go_num, by omega, ⟨T7, L, O7, _, c7, Bk.out.wt, Bk.out.rv, Bk.out.lt, Bk.out.nr, Bk.out.ng, Bk.out.bel⟩⟩, by simp [intOf]; omega⟩
          · as_aux_lemma =>
            have hil := Lib.hid hi
            have cAt0 := at_some2 w9 b T7 L O7 L[i].1 L[i].2 ii B9.out.wt (List.getElem_mem hi) he
            replace cAt0 := Lib.hid cAt0
            obtain ⟨A, hA⟩ : ∃ A : Nat, A = L[i].1 := ⟨_, rfl⟩
            rw [← hA] at cAt0
            replace hA := Lib.hid hA
            replace he := Lib.hid he
            replace hfirst := Lib.hid hfirst
            clear hids hsm hup hwfi
            go_wp2_with fail
            refine cAt0.out.mono ?_
            rintro e w' ⟨rfl, rfl⟩
            clear cAt0
            go_wp2_with fail
            go_loopw [165, 12] (fun v vi wr => ∃ j : Nat, v = .int .i64 j ∧ (j : Int) ≤ L.length ∧ (vi = .bool false ∧ j ≤ i ∨ vi = .bool true ∧ i < j) ∧ Hid (BQ w.heap.size w wr b r q T7 L T7 L O7 (some ⟨g, 0, none⟩) c7 kk ii aa)) (fun v _ _ => ((L.length : Int) - intOf v).toNat)
            case atStart => exact ⟨0, rfl, by omega, .inl ⟨rfl, by omega⟩, B9⟩
            case round =>
              obtain ⟨j, rfl, hj, hvi, Bk⟩ := hrel
              clear B9 d1 c1r
              by_cases hjn : (j : Int) < L.length
              · have hjl : j < L.length := by omega
                obtain ⟨g2, hp, ca, cb⟩ := Bk.out.rv.at j hjl
                cases hp
                have hj0 : (0 : Int) ≤ (j : Int) := by omega
                have z5 : Below wr.heap.size wr (wr.alloc (.cells #[.int .i64 (L[j].2 : Int), .int .i64 (L[j].1 : Int)] 45)) := (Below.refl _ _).alloc (Nat.le_refl _) _
                have Bk2 := Lib.hid (Bk.out.below z5)
                have d1 := Bk2.out.c1
                clear z5 Bk
                rcases hvi with ⟨rfl, hji⟩ | ⟨rfl, hji⟩
                · by_cases hjeq : j = i
                  · subst hjeq
                    have e2 : (((L[j].2 : Nat) : Int) == ii) = true := by rw [beq_iff_eq]; exact he.out
                    have e3 : (((L[j].1 : Nat) : Int) == (A : Int)) = true := by simp [hA.out]
                    clear hA hfirst he
                    generalize L[j].2 = y2 at *
                    generalize L[j].1 = y1 at *
                    go_wp2_with fail
                    exact ⟨⟨j + 1, by go_num, by omega, .inr ⟨rfl, by omega⟩, Bk2⟩, by simp [intOf]; omega⟩
                  · have e2 : (((L[j].2 : Nat) : Int) == ii) = false := by simpa using hfirst.out j (by omega)
                    clear hA hfirst he
                    generalize L[j].2 = y2 at *
                    generalize L[j].1 = y1 at *
                    go_wp2_with fail
                    exact ⟨⟨j + 1, by go_num, by omega, .inl ⟨rfl, by omega⟩, Bk2⟩, by simp [intOf]; omega⟩
                · clear hA hfirst he
                  generalize L[j].2 = y2 at *
                  generalize L[j].1 = y1 at *
                  go_wp2_with fail
                  exact ⟨⟨j + 1, by go_num, by omega, .inr ⟨rfl, by omega⟩, Bk2⟩, by simp [intOf]; omega⟩
              · have hj2 : j = L.length := by omega
                rcases hvi with ⟨rfl, hji⟩ | ⟨rfl, hji⟩
                · exact absurd hil.out (by omega)
                · have hn1 := hn0.out
                  go_wp2_with fail
                  exact ⟨⟨k + 1, by go_num, by omega, ⟨T7, L, O7, _, c7, Bk.out.wt, Bk.out.rv, Bk.out.lt, Bk.out.nr, Bk.out.ng, Bk.out.bel⟩⟩, by simp [intOf]; omega⟩
    · clear hf
      go_wp2_with fail
      go_ret
      exact ⟨rfl, h6⟩

set_option maxRecDepth 100000 in
set_option maxHeartbeats 2000000 in
theorem walk_long (now : Int) (sa : Option Addr) (n cap : Nat) (w : World) (tb : Bru w) (hn : 400 < n) :
    Calls Tryd.prog 3 #[.int .i64 now, .slice sa n cap] w fun e w' => e = .returned (.bool true) ∧ Below w.heap.size w w' := by
  have hbr : Hid (∀ W, Below w.heap.size w W → Bru W) := fun W k => tb.kp (Kp.ofBelow (O := fun _ => False) k) (fun x hx => hx.elim)
  have cw := Lib.hid (fun W (t : Bru W) => awake_any W t)
  have ca := Lib.hid (awake_any w tb)
  have hd : decide ((400 : Int) < (n : Int)) = true := by simp; omega
  replace hn := Lib.hid hn
  clear tb
  go_enter Tryd.func3, Tryd.ntmps3
  go_wp2_with fail
  refine ca.out.mono ?_
  rintro e w1 ⟨rfl, k1⟩
  have c2 := Lib.hid (cw.out w1 (hbr.out w1 k1))
  replace k1 := Lib.hid k1
  go_wp2_with fail
  refine c2.out.mono ?_
  rintro e w2 ⟨rfl, k2⟩
  go_wp2_with fail
  go_ret
  exact ⟨rfl, k1.out.trans (k2.mono k1.out.size)⟩

theorem walk (now : Int) (h1 : (Lit.int .i64 now).wf = true) (sa : Option Addr) (n cap : Nat) (f : Nat → Int × Int × Int) (w : World) (tb : Bru w) (hf : Ops3 w sa n f) :
    Calls Tryd.prog 3 #[.int .i64 now, .slice sa n cap] w fun e w' => e = .returned (.bool true) ∧ Below w.heap.size w w' := by
  by_cases hn : n ≤ 400
  · exact walk_short now sa n cap f w tb hf hn
  · exact walk_long now sa n cap w tb (by omega)


set_option maxRecDepth 100000 in
theorem contract (H : Type) (enc : TypeId × Value → H) (W : World) (base : Nat) (args : Array Value) (ds gs : List (DataW H)) (before : List MemPlace)
    (hval : ∀ (j : Nat) t v, Tryd.f3.params[j]? = some t → args[j]? = some v → Value.okWide Tryd.prog W .any base t v)
    (hW : DataW.Whole enc Tryd.prog Tryd.f3.params.toList Rows.wheelPlaysSpec.vars false W args.toList ds gs before) (hL : laidMetH Tryd.prog Rows.wheelPlaysRow.laid W) (hS : W.ShapedOpen Tryd.prog) :
    Calls Tryd.prog 3 args W fun e W' => ∃ v, e = .returned v ∧ Rows.wheelPlaysSpec.post enc Tryd.prog Tryd.f3 false true false false W args v W' := by
  have hW' := hW
  obtain ⟨p, q, hA0, hV, rfl, hfz, hnd⟩ := hW
  have hA : DataW.TrodAll enc Tryd.prog W 0 (fun _ => true) true Tryd.f3.params.toList args.toList ds p := hA0
  rw [Tryd.params3] at hA hval
  obtain ⟨v0, vs0, d0, ds0, p0, q0, hargs, rfl, rfl, h0, r0⟩ := trodAll_cons hA
  obtain ⟨v1, vs1, d1, ds1, p1, q1, rfl, rfl, rfl, h1, r1⟩ := trodAll_cons r0
  obtain ⟨rfl, rfl, rfl⟩ := trodAll_nil r1
  obtain rfl : args = #[v0, v1] := by clear hL hS hW' hval; cases args; simp_all
  obtain ⟨rfl, rfl⟩ := trodVars_none hV
  obtain ⟨a0, rfl, rfl, rfl, w0⟩ := open_int Tryd.underlying3 (hval 0 3 v0 rfl rfl) h0
  obtain ⟨b1, len1, cap1, rfl⟩ := okWide_slice Tryd.underlying22 (hval 1 22 v1 rfl rfl)
  have k1 := h1
  have lt1 : ∀ x ∈ p1, x.block < W.heap.size := by obtain ⟨m, hm⟩ := k1; exact DataW.trod_lt m _ _ _ hm
  obtain ⟨f1, tx1⟩ : ∃ f, Ops3 W b1 len1 f := by
    obtain ⟨fuel, hf⟩ := h1
    exact ops3_of hf
  clear hA0
  simp only [List.append_nil] at hW'
  refine (walk a0 w0 b1 len1 cap1 f1 W (table hL) tx1).mono fun e W' ⟨he, hg⟩ => ?_
  subst he
  exact ⟨_, rfl, _, _, _, [], _, [], hW', trodAll_cons_mk (shut_bool Tryd.underlying4 _) trodAll_mk0, trodAll_cons_mk (shut_int Tryd.underlying3 w0) (trodAll_cons_mk (Below.trod laidOut (by kernel_rfl) (of_decide_eq_true (by kernel_rfl)) k1 hg lt1) trodAll_mk0), rfl, hg.frame _, fun h => by cases h⟩

theorem reads (os : Os) {H : Type} (enc : TypeId × Value → H) : ∃ places, DataW.whole enc Tryd.prog ((laidWorld os).forCall (fun _ _ => 0) ⟨#[], #[.int .i64 0, .slice none 0 0], []⟩).memory Tryd.f3.params.toList Rows.wheelPlaysSpec.vars false (#[.int .i64 0, .slice none 0 0] : Array Value).toList 8 = some ([.lit (.int .i64 0), .nil], [], places) :=
  ⟨[], by kernel_rfl⟩

set_option maxRecDepth 100000 in
theorem lifted (os : Os) (started : os.Started) (H : Type) (enc : TypeId × Value → H) (F : Stop.Interp) :
    ReturnsInHanded {} Tryd.checked os 3 .any ((OpenSpec.ofChange Rows.wheelPlaysSpec).preRow enc Tryd.prog Tryd.f3 Rows.wheelPlaysRow.domain false Rows.wheelPlaysRow.laid) (((OpenSpec.ofChange Rows.wheelPlaysSpec).at F).post enc Tryd.prog Tryd.f3 false true false false) := by
  obtain ⟨places, hx⟩ := reads os enc
  refine returnsInHanded_of_row (C := Tryd.checked) (s := OpenSpec.ofChange Rows.wheelPlaysSpec) own started (by kernel_rfl) Tryd.func3
    (witness_row_at (enc := enc) (C := Tryd.checked) false (laidWorld os) #[.int .i64 0, .slice none 0 0] (World.laidAll_os _ _ _) (by kernel_rfl) (by kernel_rfl) (by kernel_rfl)
      (OpenSpec.preRow_of_cond 8 hx (by kernel_rfl) (fun k hk => by cases hk) (by kernel_rfl) (laid_met os _))) ?_
  intro W base args ds gs before hval hW _ _ _ hL hS _
  exact contract H enc W base args ds gs before hval hW hL hS

theorem said : Rows.WheelPlaysSaid :=
  OpenClaim.holds_of_cond 3 Tryd.f3 rfl rfl rfl rfl rfl rfl rfl ⟨rfl, rfl, rfl, rfl, rfl⟩ rfl rfl rfl rfl rfl (by kernel_rfl) Tryd.func3 (by kernel_rfl)
    (of_decide_eq_true (by kernel_rfl)) (by unfold Func.isWrapper; first | (rw [if_pos (by decide +kernel)]; kernel_rfl) | (rw [if_neg (by decide +kernel)]; exact ⟨rfl, rfl⟩))
    (fun os started H enc _ F => by rw [OpenClaim.pre_eq_preRow]; exact lifted os started H enc F)

theorem plain (f : FuncId) (fn : Func) (hf : Tryd.pinned.checked.prog.funcNamed "tompion/tompionlaw06.WheelPlays" = some f) (hfn : Tryd.pinned.checked.prog.funcs[f]? = some fn) :
    false = Tryd.pinned.checked.prog.looks [] ∧ ∀ (j : Nat) t, fn.params[j]? = some t → Tryd.pinned.checked.prog.wantsStandIn t = false := by
  obtain rfl : f = 3 := Option.some.inj ((show Tryd.prog.funcNamed "tompion/tompionlaw06.WheelPlays" = some 3 by kernel_rfl).symm.trans hf) |>.symm
  obtain rfl : fn = Tryd.f3 := (Option.some.inj (Tryd.func3.symm.trans hfn)).symm
  refine ⟨by kernel_rfl, fun j t ht => ?_⟩
  rw [Tryd.params3] at ht
  have hm := Array.mem_of_getElem? ht
  simp at hm
  replace hm : t = 3 ∨ t = 22 := by first | (rcases hm with e | e | e <;> simp [e]) | (rcases hm with e | e <;> simp [e])
  rcases hm with rfl | rfl
  · exact (show Tryd.prog.wantsStandIn 3 = false by kernel_rfl)
  · exact (show Tryd.prog.wantsStandIn 22 = false by kernel_rfl)

/-- The statement: the card, its tables tied to the program's text. -/
theorem proved : Rows.WheelPlaysCardSaid :=
  Claim7.holds_tied_plain_at .later [] _ _ _ _ said (fun _ h => by cases h) (by kernel_rfl) (fun _ h => by cases h) wheelPlays_row_tie rfl ⟨rfl, rfl⟩ (by kernel_rfl) rfl plain (by kernel_rfl)
#print axioms proved
end Go.Proofs.YthobffeafddonaaDoor.wheelPlays
