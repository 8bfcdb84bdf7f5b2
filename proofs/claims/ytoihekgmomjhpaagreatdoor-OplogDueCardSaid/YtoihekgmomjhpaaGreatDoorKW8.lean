/-
  Texts laid into one (a claim has 60 files at most): WApi, WTwo, WLeft, WOnce, WTake.
-/
import Derived.Test.YtoihekgmomjhpaaGreatDoorKW7
import Derived.Test.YtoihekgmomjhpaaGreatDoorKN5
import Derived.ChangeSlices
import Derived.Test.YtoihekgmomjhpaaGreatDoorKW6
/-
  Layer 6: Advance and Due.
-/
set_option linter.unusedVariables false
namespace Go.Proofs.YtoihekgmomjhpaaGreatDoor.W
open Go.RowKit Whl
def dueBy (l : List ItemN) (n : Nat) : List ItemN := l.filter fun p => decide (p.1 ≤ n)
def comeBy (l : List ItemN) (a n : Nat) : List ItemN := l.filter fun p => decide (a < p.1) && decide (p.1 ≤ n)
theorem Rw.le {base base' : Nat} {w : World} {v : Value} {l : List ItemN} (h : Rw base w v l) (hb : base' ≤ base) : Rw base' w v l := by
  refine ⟨h.1, ?_⟩
  rcases h.2 with h2 | ⟨g, cap, cur, e1, e2, e3⟩
  · exact .inl h2
  · exact .inr ⟨g, cap, cur, e1, by omega, e3⟩
/-- A slice from a place on. -/
theorem tail_cells {base : Nat} {w : World} {v : Value} {l : List ItemN} (h : Rw base w v l) (k : Nat) (hk : k ≤ l.length) :
    ∃ (a : Option Addr) (cap : Nat), v = .slice a l.length cap ∧ l.length ≤ cap ∧ cap ≤ maxLen ∧ ((a = none ∧ l.length = 0 ∧ cap = 0) ∨ ∃ g, a = some ⟨g, 0, none⟩) ∧
      ∀ a2 : Option Addr, (a = none → a2 = none) → (∀ g, a = some ⟨g, 0, none⟩ → a2 = (if cap = k then some ⟨g, 0, none⟩ else some ⟨g, k * 2, none⟩)) → ∀ (j : Nat) (u : Value), (flat (l.drop k))[j]? = some u → ∃ b, a2 = some b ∧ w.cell? (b.add j) = some u := by
  rcases h.2 with ⟨h1, h2⟩ | ⟨g, cap, cur, h1, h2, h3, h4, h5, h6⟩
  · refine ⟨none, 0, by rw [h1, h2], by omega, by omega, .inl ⟨rfl, h2, rfl⟩, fun a2 _ _ j u hu => ?_⟩
    have := (List.getElem?_eq_some_iff.1 hu).1
    rw [flat_len, List.length_drop] at this
    omega
  · refine ⟨some ⟨g, 0, none⟩, cap, h1, h4, h5, .inr ⟨g, rfl⟩, fun a2 _ ha2 j u hu => ?_⟩
    have hlt := (List.getElem?_eq_some_iff.1 hu).1
    rw [flat_len, List.length_drop] at hlt
    have ha3 := ha2 g rfl
    rw [if_neg (by omega)] at ha3
    rw [h1] at h
    exact ⟨_, ha3, flat_of_row h k hk j u hu⟩
set_option maxHeartbeats 4000000 in
set_option maxRecDepth 100000 in
theorem advance_any (base : Nat) (w : World) (b now : Nat) (l : List ItemN) (O : Nat → Prop) (n : Int) (h : WT base w b now l O) :
    Calls Tryz.prog 42 #[.pointer (some ⟨b, 0, none⟩), .int .i64 n] w fun e w' => ∃ v' O', e = .returned v' ∧ After base w O w' b (max now (min n 1099511627776).toNat) l O' ∧ Rw w.heap.size w' v' (comeBy l now (max now (min n 1099511627776).toNat)) ∧ ∀ k, v'.ownBlock = some k → ¬ O' k := by
  obtain ⟨m, V, F, L, t, hS, tm, tok, o1, o2⟩ := h.ex
  have htop : max now (min n 1099511627776).toNat ≤ 1099511627776 := by have := h.top; omega
  have cg := Lib.hid (goOn_any base w b now m V F L l hS h.bru h.pos (min n 1099511627776) (by omega))
  have hge : now ≤ max now (min n 1099511627776).toNat := by omega
  generalize max now (min n 1099511627776).toNat = N at *
  have c2 := hS.wh.slot 2 (.inl rfl)
  obtain ⟨a, cap, hv2, _, _, _⟩ := (hS.wh.row 2 (.inl rfl)).look
  have hlen : (L 2).length ≤ 50000 := Nat.le_trans (hS.ok.len 2) hS.len
  have hfin : Hid (∀ w1 V1 F1 L1, Step base w b V w1 N m V1 F1 L1 → Bits F1 L1 → Ok N l L1 → L1 2 = dueBy l now ++ comeBy l now N ∧ After base w O w1 b N l (OwnW b V1 m)) := fun w1 V1 F1 L1 st bt ok => by
    have own : ∀ k, OwnW b V1 m k → O k ∨ w.heap.size ≤ k := fun k hk => by
      rcases hk with e | e
      · rcases st.own k e with g | g
        · exact .inl (o1 k g)
        · exact .inr g
      · exact .inl (o2 k e)
    have kp3 : Kp O w w1 := st.kp.mono (fun i hi => .inl (o1 i hi))
    refine ⟨ok.due.trans (come_due hS.ok.up hge), ⟨⟨⟨m, V1, F1, L1, t, ⟨st.wh, bt, ok, hS.max, hS.len⟩, tm.kp st.kp (TM.apart hS.wh tm), tok, fun k hk => .inl hk, fun mb e => .inr e⟩, h.bru.kp kp3 (fun x hx => Nat.lt_of_lt_of_le h.pos (h.low x hx)), fun k hk => ?_, h.pos, htop⟩, kp3, own⟩⟩
    rcases own k hk with g | g
    · exact h.low k g
    · have := hS.wh.low; have := hS.wh.lt; omega
  have hd : (L 2) = dueBy l now := hS.ok.due
  rw [hd] at hv2 hlen
  rw [hv2] at c2
  have hcl : (comeBy l now N).length ≤ 50000 := Nat.le_trans (List.length_filter_le _ _) hS.len
  clear h hS tm tok o1 o2 hv2 hd
  generalize hk : (dueBy l now).length = k at *
  have hk2 : (k : Int) ≤ 50000 := by omega
  go_enter Tryz.func42, Tryz.ntmps42
  go_wp2_with fail
  refine cg.out.mono ?_
  rintro e w1 ⟨rfl, V1, F1, L1, st, bt, ok⟩
  obtain ⟨hL, A1⟩ := hfin.out w1 V1 F1 L1 st bt ok
  have c3 := st.wh.slot 2 (.inl rfl)
  have hll : (L1 2).length = k + (comeBy l now N).length := by rw [hL, List.length_append, hk]
  obtain ⟨a1, cap1, hv, z1, z2, hcase, hsrc⟩ := tail_cells (st.wh.row 2 (.inl rfl)) k (by omega)
  have hdr : (L1 2).drop k = comeBy l now N := by rw [hL, List.drop_left' hk]
  rw [hdr] at hsrc
  rw [hv, hll] at c3
  rw [hll] at z1 hcase
  have hz2 : (cap1 : Int) ≤ 9223372036854775807 := by simp only [maxLen] at z2; omega
  have hown : ∀ x, OwnW b V1 m x → x < w1.heap.size := fun x hx => by
    rcases hx with e | e
    · exact (st.wh.own_low e).2
    · obtain ⟨m', V', F', L', t', hS', tm', tok', o1', o2'⟩ := A1.wt.ex
      have e1 := hS'.wh.times
      rw [st.wh.times] at e1
      injection e1 with e1
      rcases tm' with ⟨e2, _⟩ | ⟨mb, e2, _, im⟩
      · rw [← e1, e] at e2; cases e2
      · rw [← e1, e] at e2
        injection e2 with e2
        injection e2 with e2
        subst e2
        exact im.lt
  have hsz := A1.kp.size
  have cc := Lib.hid (fun a2 c2 (h1 : a1 = none → a2 = none) (h2 : ∀ g, a1 = some ⟨g, 0, none⟩ → a2 = (if cap1 = k then some ⟨g, 0, none⟩ else some ⟨g, k * 2, none⟩)) => copyOf_any a2 (comeBy l now N).length c2 (comeBy l now N) w1 rfl (hsrc a2 h1 h2) (by omega))
  have hend : Hid (∀ w2 v2, Rw w1.heap.size w2 v2 (comeBy l now N) → Below w1.heap.size w1 w2 → ∃ v' O', v2 = v' ∧ After base w O w2 b N l O' ∧ Rw w.heap.size w2 v' (comeBy l now N) ∧ ∀ k, v'.ownBlock = some k → ¬ O' k) := fun w2 v2 hr hb => by
    refine ⟨v2, OwnW b V1 m, rfl, ⟨A1.wt.below hb, A1.kp.trans (Kp.ofBelow (O := OwnW b V1 m) hb) A1.own, A1.own⟩, hr.le (by omega), fun x hx hO => ?_⟩
    have h1 := (World.ownsRow.lt hr x hx).1
    have h2 := hown x hO
    omega
  clear hsrc hown hsz hdr hll hv A1 hL hfin st bt ok cg c2
  generalize (comeBy l now N).length = q at *
  have hq : (q : Int) ≤ 50000 := by omega
  rcases hcase with ⟨rfl, h0, h1⟩ | ⟨g, rfl⟩
  · have hk0 : k = 0 := by omega
    have hq0 : q = 0 := by omega
    subst hk0 hq0 h1
    have c5 := Lib.hid (cc.out none 0 (fun _ => rfl) (fun g hg => by cases hg))
    go_wp2_with fail
    refine c5.out.mono ?_
    rintro e w2 ⟨v2, rfl, hr2, hb2⟩
    obtain ⟨v', O', rfl, r1, r2, r3⟩ := hend.out w2 v2 hr2 hb2
    go_wp2_with fail
    go_ret
    exact ⟨_, O', rfl, r1, r2, r3⟩
  · have hb5 : (k : Int) ≤ (k : Int) + (q : Int) := by omega
    have hkc : k ≤ cap1 := by omega
    have e0 : ((k + q : Nat) : Int) = (k : Int) + (q : Int) := by omega
    have e1 : k + q - k = q := by omega
    by_cases hkk : cap1 = k
    · subst hkk
      have c5 := Lib.hid (cc.out (some ⟨g, 0, none⟩) 0 (fun e => by cases e) (fun g2 hg => by rw [if_pos rfl]; exact hg))
      go_wp2_with fail
      refine c5.out.mono ?_
      rintro e w2 ⟨v2, rfl, hr2, hb2⟩
      obtain ⟨v', O', rfl, r1, r2, r3⟩ := hend.out w2 v2 hr2 hb2
      go_wp2_with fail
      go_ret
      exact ⟨_, O', rfl, r1, r2, r3⟩
    · have c5 := Lib.hid (cc.out (some ⟨g, k * 2, none⟩) (cap1 - k) (fun e => by cases e) (fun g2 hg => by rw [if_neg hkk]; injection hg with hg; injection hg with hg; rw [hg]))
      go_wp2_with fail
      refine c5.out.mono ?_
      rintro e w2 ⟨v2, rfl, hr2, hb2⟩
      obtain ⟨v', O', rfl, r1, r2, r3⟩ := hend.out w2 v2 hr2 hb2
      go_wp2_with fail
      go_ret
      exact ⟨_, O', rfl, r1, r2, r3⟩
/-- A slice up to a place. -/
theorem head_cells {base : Nat} {w : World} {v : Value} {l : List ItemN} (h : Rw base w v l) (k : Nat) (hk : k ≤ l.length) :
    ∃ (a : Option Addr) (cap : Nat), v = .slice a l.length cap ∧ l.length ≤ cap ∧ cap ≤ maxLen ∧ ((a = none ∧ l.length = 0 ∧ cap = 0) ∨ ∃ g, a = some ⟨g, 0, none⟩) ∧
      ∀ (j : Nat) (u : Value), (flat (l.take k))[j]? = some u → ∃ b, a = some b ∧ w.cell? (b.add j) = some u := by
  rcases h.2 with ⟨h1, h2⟩ | ⟨g, cap, cur, h1, h2, h3, h4, h5, h6⟩
  · refine ⟨none, 0, by rw [h1, h2], by omega, by omega, .inl ⟨rfl, h2, rfl⟩, fun j u hu => ?_⟩
    have := (List.getElem?_eq_some_iff.1 hu).1
    rw [flat_len, List.length_take] at this
    omega
  · refine ⟨some ⟨g, 0, none⟩, cap, h1, h4, h5, .inr ⟨g, rfl⟩, fun j u hu => ?_⟩
    rw [h1] at h
    exact ⟨_, rfl, flat_of_head h k hk j u hu⟩
set_option maxHeartbeats 4000000 in
set_option maxRecDepth 100000 in
theorem due_any (base : Nat) (w : World) (b now : Nat) (l : List ItemN) (O : Nat → Prop) (n : Int) (h : WT base w b now l O) :
    Calls Tryz.prog 43 #[.pointer (some ⟨b, 0, none⟩), .int .i64 n] w fun e w' => ∃ v', e = .returned v' ∧ Rw w.heap.size w' v' ((dueBy l now).take n.toNat) ∧ Below w.heap.size w w' := by
  by_cases h1 : n < 1
  · rw [show n.toNat = 0 by omega, List.take_zero]
    have h2 : decide (n < 1) = true := decide_eq_true h1
    clear h
    go_enter Tryz.func43, Tryz.ntmps43
    go_wp2_with fail
    go_ret
    exact ⟨_, rfl, Rw.nil _ _, Below.refl _ _⟩
  · obtain ⟨m, V, F, L, t, hS, tm, tok, o1, o2⟩ := h.ex
    have hd : (L 2) = dueBy l now := hS.ok.due
    have hlen : (dueBy l now).length ≤ 50000 := Nat.le_trans (List.length_filter_le _ _) hS.len
    have c2 := hS.wh.slot 2 (.inl rfl)
    have hr := hS.wh.row 2 (.inl rfl)
    rw [hd] at hr
    obtain ⟨k, hk⟩ : ∃ k : Nat, min n ((dueBy l now).length : Int) = (k : Int) := ⟨(min n ((dueBy l now).length : Int)).toNat, by omega⟩
    have hkl : k ≤ (dueBy l now).length := by omega
    have htk : (dueBy l now).take n.toNat = (dueBy l now).take k := by
      by_cases h3 : n.toNat ≤ (dueBy l now).length
      · rw [show k = n.toNat by omega]
      · rw [List.take_of_length_le (by omega), List.take_of_length_le (by omega)]
    rw [htk]
    obtain ⟨a, cap, hv, z1, z2, hcase, hsrc⟩ := head_cells hr k hkl
    rw [hv] at c2
    have cc := Lib.hid (fun (W : World) (hW : Below w.heap.size w W) c3 => copyOf_any a k c3 ((dueBy l now).take k) W (by rw [List.length_take]; omega) (fun j u hu => by
      obtain ⟨b2, e1, e2⟩ := hsrc j u hu
      exact ⟨b2, e1, (hW.cell (World.block_lt_of_cell? w _ e2)).trans e2⟩) (by rw [List.length_take]; omega))
    have hz2 : (cap : Int) ≤ 9223372036854775807 := by simp only [maxLen] at z2; omega
    have hn2 : decide (n < 1) = false := decide_eq_false h1
    have hkc : (k : Int) ≤ cap := by omega
    clear h hS tm tok o1 o2 hd hr hv hsrc htk hcase
    generalize (dueBy l now).take k = L8 at *
    generalize (dueBy l now).length = q at *
    have hq : (q : Int) ≤ 50000 := by omega
    go_enter Tryz.func43, Tryz.ntmps43
    go_upto_region 3 with fail
    have c5 := Lib.hid (cc.out w.drew ((Below.refl _ _).drew) cap)
    have hcA : w.drew.cell? ⟨b, 2, none⟩ = some (.slice a q cap) := c2
    clear cc
    go_region_held3 (fun W => W.cell? ⟨b, 2, none⟩ = some (.slice a q cap)) (first | (with_reducible exact hc6) | (with_reducible exact hcA) | go_keep)
      (first
        | (go_at_call 65; (with_reducible refine c5.out.mono ?_); rintro e w6 ⟨v6, rfl, r6, k6⟩; have hc6 := (k6.cell (p := ⟨b, 2, none⟩) (World.block_lt_of_cell? w.drew _ hcA)).trans hcA; replace r6 := Lib.hid r6; replace k6 := Lib.hid k6))
    all_goals
      go_wp2_with fail
      go_ret
      exact ⟨_, rfl, r6.out, ((Below.refl w.heap.size w).drew).trans k6.out⟩
end Go.Proofs.YtoihekgmomjhpaaGreatDoor.W

/-
  Layer 6: a slice of numbers that came in, and wheels beside each other.
-/
set_option linter.unusedVariables false
namespace Go.Proofs.YtoihekgmomjhpaaGreatDoor.W
set_option maxRecDepth 100000
open Go.ChangeShapes Go.WideShapes Go.ChangeAt Go.RowKit Whl
/-- A slice of numbers that came in, as it is read. -/
def Ints (q : IntKind) (w : World) (a : Option Addr) (n : Nat) (f : Nat → Int) : Prop := ∀ i, i < n → ∃ b off, a = some ⟨b, off, none⟩ ∧ w.cell? ⟨b, off + i, none⟩ = some (.int q (f i)) ∧ (Lit.int q (f i)).wf = true
theorem Ints.keep {q : IntKind} {w w' : World} {a : Option Addr} {n : Nat} {f : Nat → Int} (h : Ints q w a n f) (k : Below w.heap.size w w') : Ints q w' a n f := fun i hi => by
  obtain ⟨b, off, e, c, z⟩ := h i hi
  exact ⟨b, off, e, (k.cell (p := ⟨b, off + i, none⟩) (World.block_lt_of_cell? w _ c)).trans c, z⟩
/-- Its own blocks, and no others. -/
theorem WT.tight {base : Nat} {w : World} {b now : Nat} {l : List ItemN} {O : Nat → Prop} (h : WT base w b now l O) : ∃ O2, WT base w b now l O2 ∧ ∀ k, O2 k → O k ∧ k < w.heap.size := by
  obtain ⟨m, V, F, L, t, hS, tm, tok, o1, o2⟩ := h.ex
  have hlt : ∀ k, OwnW b V m k → O k ∧ k < w.heap.size := fun k hk => by
    rcases hk with e | e
    · exact ⟨o1 k e, (hS.wh.own_low e).2⟩
    · refine ⟨o2 k e, ?_⟩
      rcases tm with ⟨e2, _⟩ | ⟨mb, e2, _, im⟩
      · rw [e] at e2; cases e2
      · rw [e] at e2
        injection e2 with e2
        injection e2 with e2
        subst e2
        exact im.lt
  exact ⟨OwnW b V m, ⟨⟨m, V, F, L, t, hS, tm, tok, fun k hk => .inl hk, fun mb e => .inr e⟩, h.bru, fun k hk => h.low k (hlt k hk).1, h.pos, h.top⟩, hlt⟩
/-- Two wheels beside each other. -/
structure Two (base : Nat) (w : World) (b1 b2 n1 n2 : Nat) (l1 l2 : List ItemN) (O1 O2 : Nat → Prop) : Prop where
  one : WT base w b1 n1 l1 O1
  two : WT base w b2 n2 l2 O2
  lt1 : ∀ k, O1 k → k < w.heap.size
  lt2 : ∀ k, O2 k → k < w.heap.size
  apart : ∀ k, O1 k → ¬ O2 k
theorem Two.swap {base : Nat} {w : World} {b1 b2 n1 n2 : Nat} {l1 l2 : List ItemN} {O1 O2 : Nat → Prop} (h : Two base w b1 b2 n1 n2 l1 l2 O1 O2) : Two base w b2 b1 n2 n1 l2 l1 O2 O1 := ⟨h.two, h.one, h.lt2, h.lt1, fun k h2 h1 => h.apart k h1 h2⟩
theorem Two.below {base : Nat} {w w' : World} {b1 b2 n1 n2 : Nat} {l1 l2 : List ItemN} {O1 O2 : Nat → Prop} (h : Two base w b1 b2 n1 n2 l1 l2 O1 O2) (k : Below w.heap.size w w') : Two base w' b1 b2 n1 n2 l1 l2 O1 O2 :=
  ⟨h.one.below k, h.two.below k, fun x hx => Nat.lt_of_lt_of_le (h.lt1 x hx) k.size, fun x hx => Nat.lt_of_lt_of_le (h.lt2 x hx) k.size, h.apart⟩
/-- A call on the first of them. -/
theorem Two.step {base : Nat} {w w' : World} {b1 b2 n1 n2 n : Nat} {l1 l2 l : List ItemN} {O1 O2 O' : Nat → Prop} (h : Two base w b1 b2 n1 n2 l1 l2 O1 O2) (a : After base w O1 w' b1 n l O') : ∃ O3, Two base w' b1 b2 n n2 l l2 O3 O2 ∧ ∀ k, O3 k → O' k := by
  obtain ⟨O3, h3, h4⟩ := a.wt.tight
  refine ⟨O3, ⟨h3, h.two.kept a.kp (fun x hx => ⟨h.apart x hx, Nat.lt_of_lt_of_le h.one.pos (h.one.low x hx)⟩), fun k hk => (h4 k hk).2, fun k hk => Nat.lt_of_lt_of_le (h.lt2 k hk) a.kp.size, fun k hk hk2 => ?_⟩, fun k hk => (h4 k hk).1⟩
  rcases a.own k (h4 k hk).1 with e | e
  · exact h.apart k e hk2
  · have := h.lt2 k hk2; omega
theorem Two.kept {base : Nat} {w w' : World} {b1 b2 n1 n2 : Nat} {l1 l2 : List ItemN} {O1 O2 O : Nat → Prop} (h : Two base w b1 b2 n1 n2 l1 l2 O1 O2) (k : Kp O w w') (ho : ∀ x, O x → ¬ O1 x ∧ ¬ O2 x ∧ 0 < x) : Two base w' b1 b2 n1 n2 l1 l2 O1 O2 :=
  ⟨h.one.kept k (fun x hx => ⟨(ho x hx).1, (ho x hx).2.2⟩), h.two.kept k (fun x hx => ⟨(ho x hx).2.1, (ho x hx).2.2⟩), fun x hx => Nat.lt_of_lt_of_le (h.lt1 x hx) k.size, fun x hx => Nat.lt_of_lt_of_le (h.lt2 x hx) k.size, h.apart⟩
theorem WT.up {base : Nat} {w : World} {b now : Nat} {l : List ItemN} {O : Nat → Prop} (h : WT base w b now l O) : Up l ∧ l.length ≤ 50000 := by
  obtain ⟨m, V, F, L, t, hS, tm, tok, o1, o2⟩ := h.ex
  exact ⟨hS.ok.up, hS.len⟩
end Go.Proofs.YtoihekgmomjhpaaGreatDoor.W

/-
  Layer 6: a map of ids and times from which is taken what came due.
-/
set_option linter.unusedVariables false
namespace Go.Proofs.YtoihekgmomjhpaaGreatDoor.W
set_option maxRecDepth 100000
open Go.RowKit Whl Go.ChangeMaps
theorem map_eraseIdx_own {α β : Type} (f : α → β) (l : List α) (j : Nat) : (l.eraseIdx j).map f = (l.map f).eraseIdx j := by
  rw [List.eraseIdx_eq_take_drop_succ, List.eraseIdx_eq_take_drop_succ, List.map_append, List.map_take, List.map_drop]
theorem int_look_some {w : World} {mb : Nat} {t : List (Nat × Nat)} (hm : IntMap w mb t) (hl : ∀ p ∈ t, p.1 ≤ 1048576) (hk : t.Pairwise fun p q => p.1 ≠ q.1) {id v : Nat} (hp : (id, v) ∈ t) :
    (Instr.lookup 109 (.map (some mb)) (.int .i64 (id : Int)) false).run Tryz.prog w = .ok (.int .i64 (v : Int)) w := by
  obtain ⟨es, clock, hb, he⟩ := hm
  obtain ⟨k1, k2⟩ := intmap_keys hl he
  have hid := hl _ hp
  have hkey := key_int (a := (id : Int)) (by omega) (by simp only at hid; omega)
  rcases keyed3.find w hkey es.toList k1 with ⟨f1, f2⟩ | ⟨j, e0, f1, f2, f3⟩
  · have : (Value.int .i64 (id : Int), Value.int .i64 (v : Int)) ∈ es.toList.map (fun e => (e.key, e.val)) := by
      rw [he]
      exact List.mem_map.2 ⟨_, hp, rfl⟩
    obtain ⟨x, hx, ex⟩ := List.mem_map.1 this
    injection ex with a _
    exact absurd a (f2 x hx)
  · obtain ⟨p, hpt, e1, e2⟩ := k2 e0 (List.mem_of_getElem? f2)
    rw [f3] at e1
    injection e1 with _ e1
    have hpv : p.2 = v := by
      refine Classical.byContradiction fun hne => ?_
      have h1 : p.1 = id := by omega
      have h2 : p ≠ (id, v) := fun e => hne (by rw [e])
      obtain ⟨i, hi, rfl⟩ := List.mem_iff_getElem.1 hpt
      obtain ⟨i2, hi2, e3⟩ := List.mem_iff_getElem.1 hp
      rcases Nat.lt_trichotomy i i2 with g | g | g
      · exact List.pairwise_iff_getElem.1 hk i i2 hi hi2 g (by rw [e3]; exact h1)
      · subst g; exact h2 e3
      · exact List.pairwise_iff_getElem.1 hk i2 i hi2 hi g (by rw [e3]; exact h1.symm)
    simp [Instr.lookup, run_underlying map50, MapKept.run_getObj_map hb, keyed3.check w _ hkey, f1, Result.andThen, e2, hpv]
theorem int_delete {w : World} {mb : Nat} {t : List (Nat × Nat)} (hm : IntMap w mb t) (hl : ∀ p ∈ t, p.1 ≤ 1048576) (hk : t.Pairwise fun p q => p.1 ≠ q.1) {id v : Nat} (hp : (id, v) ∈ t) :
    ∃ w', (∀ ty, (Builtin.delete_ #[109, 3] ty #[.map (some mb), .int .i64 (id : Int)]).run Tryz.prog w = .ok (.tuple #[]) w') ∧ IntMap w' mb (t.erase (id, v)) ∧ w.grownBy w' (some mb) ∧ w'.heap.size = w.heap.size := by
  obtain ⟨es, clock, hb, he⟩ := hm
  obtain ⟨k1, k2⟩ := intmap_keys hl he
  have hid := hl _ hp
  have hkey := key_int (a := (id : Int)) (by omega) (by simp only at hid; omega)
  rcases keyed3.find w hkey es.toList k1 with ⟨f1, f2⟩ | ⟨j, e0, f1, f2, f3⟩
  · have : (Value.int .i64 (id : Int), Value.int .i64 (v : Int)) ∈ es.toList.map (fun e => (e.key, e.val)) := by
      rw [he]
      exact List.mem_map.2 ⟨_, hp, rfl⟩
    obtain ⟨x, hx, ex⟩ := List.mem_map.1 this
    injection ex with a _
    exact absurd a (f2 x hx)
  · have hj : j < es.size := by
      have := (List.getElem?_eq_some_iff.1 f2).1
      simpa using this
    have hlen : es.toList.length = t.length := by
      have := congrArg List.length he
      simpa using this
    have hjt : j < t.length := by rw [← hlen]; simpa using hj
    have hat : t[j] = (id, v) := by
      have h1 := congrArg (·[j]?) he
      simp only [List.getElem?_map, f2, List.getElem?_eq_getElem hjt, Option.map_some] at h1
      injection h1 with h1
      injection h1 with h2 h3
      rw [f3] at h2
      injection h2 with _ h2
      have hid2 : t[j].1 = id := by omega
      obtain ⟨i2, hi2, e3⟩ := List.mem_iff_getElem.1 hp
      rcases Nat.lt_trichotomy j i2 with g | g | g
      · exact absurd (by rw [e3]; exact hid2) (List.pairwise_iff_getElem.1 hk j i2 hjt hi2 g)
      · subst g; exact e3
      · exact absurd (by rw [e3]; exact hid2.symm) (List.pairwise_iff_getElem.1 hk i2 j hi2 hjt g)
    have hnd : t.Nodup := hk.imp (fun {p q} h e => h (by rw [e]))
    have her : t.erase (id, v) = t.eraseIdx j := by
      rw [List.erase_eq_eraseIdx_of_idxOf rfl]
      congr 1
      have := hnd.idxOf_getElem j hjt
      rw [hat] at this
      exact this
    rw [her]
    have hne : es.isEmpty = false := by
      rw [Array.isEmpty_eq_false_iff]
      intro e
      rw [e] at hj
      simp at hj
    refine ⟨setBlock w mb (.map (es.eraseIdxIfInBounds j) clock), ?_, ⟨_, _, heap_setBlock_same hb _, ?_⟩, ⟨rfl, rfl, rfl, by simp [setBlock], fun k _ hk => heap_setBlock_other hb _ (fun e => hk (by rw [e]))⟩, by simp [setBlock]⟩
    · intro ty
      simp [Builtin.delete_, run_underlying map50, MapKept.run_getObj_map hb, hne, keyed3.check w false hkey, f1, MapKept.run_setObj_map _ hb, Result.andThen, setBlock]
    · rw [Array.eraseIdxIfInBounds, dif_pos hj, Array.toList_eraseIdx, map_eraseIdx_own, he, map_eraseIdx_own]
/-- One that came due goes from the map. -/
theorem TOk.gone {t : List (Nat × Nat)} {p : ItemN} {l : List ItemN} (h : TOk t (p :: l)) : (p.2, p.1) ∈ t ∧ TOk (t.erase (p.2, p.1)) l := by
  have hm : (p.2, p.1) ∈ t := by
    have : p ∈ t.map fun p => (p.2, p.1) := h.perm.mem_iff.2 (by simp)
    obtain ⟨q, hq, e⟩ := List.mem_map.1 this
    have : q = (p.2, p.1) := by rw [← e]
    rw [← this]; exact hq
  refine ⟨hm, ?_, h.keys.sublist List.erase_sublist, fun q hq => h.small q (List.mem_of_mem_erase hq)⟩
  have h1 : (t.map fun p => (p.2, p.1)).Perm (p :: (t.erase (p.2, p.1)).map fun p => (p.2, p.1)) := by
    have := (List.perm_cons_erase hm).map fun p : Nat × Nat => (p.2, p.1)
    simpa using this
  exact (List.perm_cons p).1 (h1.symm.trans h.perm)
end Go.Proofs.YtoihekgmomjhpaaGreatDoor.W

/-
  Layer 6: a wheel, and beside it a map of what hasn't come due yet.
-/
set_option linter.unusedVariables false
namespace Go.Proofs.YtoihekgmomjhpaaGreatDoor.W
set_option maxRecDepth 100000
open Go.RowKit Whl Go.ChangeMaps
structure Lw (base : Nat) (w : World) (b lb now : Nat) (l r : List ItemN) (O : Nat → Prop) : Prop where
  wt : WT base w b now l O
  lt : ∀ k, O k → k < w.heap.size
  map : ∃ tl, IntMap w lb tl ∧ TOk tl r
  no : ¬ O lb
  low : base ≤ lb
theorem Lw.set {base : Nat} {w w' : World} {b lb now n : Nat} {l r l2 : List ItemN} {O O' : Nat → Prop} (h : Lw base w b lb now l r O) (a : After base w O w' b n l2 O') : ∃ O2, Lw base w' b lb n l2 r O2 ∧ ∀ k, O2 k → O' k := by
  obtain ⟨O2, h2, h3⟩ := a.wt.tight
  obtain ⟨tl, m, t⟩ := h.map
  refine ⟨O2, ⟨h2, fun k hk => (h3 k hk).2, ⟨tl, m.kept (a.kp.block lb m.lt h.no), t⟩, fun hk => ?_, h.low⟩, fun k hk => (h3 k hk).1⟩
  rcases a.own lb (h3 lb hk).1 with e | e
  · exact h.no e
  · have := m.lt; omega
theorem Lw.kept {base : Nat} {w w' : World} {b lb now : Nat} {l r : List ItemN} {O O2 : Nat → Prop} (h : Lw base w b lb now l r O) (k : Kp O2 w w') (ho : ∀ x, O2 x → ¬ O x ∧ 0 < x ∧ x ≠ lb) : Lw base w' b lb now l r O := by
  obtain ⟨tl, m, t⟩ := h.map
  exact ⟨h.wt.kept k (fun x hx => ⟨(ho x hx).1, (ho x hx).2.1⟩), fun x hx => Nat.lt_of_lt_of_le (h.lt x hx) k.size, ⟨tl, m.kept (k.block lb m.lt (fun e => (ho lb e).2.2 rfl)), t⟩, h.no, h.low⟩
theorem Lw.below {base : Nat} {w w' : World} {b lb now : Nat} {l r : List ItemN} {O : Nat → Prop} (h : Lw base w b lb now l r O) (k : Below w.heap.size w w') : Lw base w' b lb now l r O :=
  h.kept (O2 := fun _ => False) (Kp.ofBelow k) (fun x hx => hx.elim)
theorem kp_grown {w w' : World} {x : Nat} (g : w.grownBy w' (some x)) : Kp (fun k => k = x) w w' := ⟨g.os, g.tape, g.output, g.size, fun k hk hn => g.block k hk (fun e => by injection e with e; exact hn (by show k = x; omega))⟩
theorem Lw.put {base : Nat} {w : World} {b lb now : Nat} {l r : List ItemN} {O : Nat → Prop} (h : Lw base w b lb now l r O) (id a : Nat) (hid : id ≤ 1048576) (hn : ∀ p, p ∈ r → p.2 ≠ id) :
    ∃ w', (Instr.mapUpdate 109 (.map (some lb)) (.int .i64 (id : Int)) (.int .i64 (a : Int))).run Tryz.prog w = .ok () w' ∧ Lw base w' b lb now l (ins (a, id) r) O ∧ Below base w w' := by
  obtain ⟨tl, m, t⟩ := h.map
  obtain ⟨w', h1, h2, h3, h4⟩ := int_insert m t.small id a hid (t.not hn)
  have kp := kp_grown h3
  exact ⟨w', h1, ⟨h.wt.kept kp (fun x hx => ⟨fun hO => h.no (hx ▸ hO), Nat.lt_of_lt_of_le h.wt.pos (hx ▸ h.low)⟩), fun x hx => by have := h.lt x hx; omega, ⟨_, h2, t.add hn hid⟩, h.no, h.low⟩, kp.below (B := base) (fun x hx => hx ▸ h.low) (Nat.le_trans h.low (Nat.le_of_lt m.lt))⟩
theorem Lw.none {base : Nat} {w : World} {b lb now : Nat} {l r : List ItemN} {O : Nat → Prop} (h : Lw base w b lb now l r O) (hr : r = []) (ty : TypeId) : (Builtin.len_ #[109] ty #[.map (some lb)]).run Tryz.prog w = .ok (.int .i64 0) w := by
  obtain ⟨tl, m, t⟩ := h.map
  have := m.len ty
  rw [t.len, hr] at this
  exact this
end Go.Proofs.YtoihekgmomjhpaaGreatDoor.W

/-
  Layer 6: the wheel's takeOut: one goes from where its time, and the wheel's, tell that it is.
-/
set_option linter.unusedVariables false
namespace Go.Proofs.YtoihekgmomjhpaaGreatDoor.W
open Go.RowKit Whl
theorem Bits.rem {F : Nat → Nat} {L : Nat → List ItemN} (h : Bits F L) {i s : Nat} (hi : i < 6) (hs : s < 64) {x : ItemN} (hx : x ∈ L (4 + 65 * i + s)) : Bits (if (L (4 + 65 * i + s)).erase x = [] then (fun j => if j = i then lessBit (F i) s else F j) else F) (put L (4 + 65 * i + s) ((L (4 + 65 * i + s)).erase x)) := fun j hj => by
  obtain ⟨h1, h2⟩ := h j hj
  have hne : L (4 + 65 * i + s) ≠ [] := List.ne_nil_of_mem hx
  by_cases he : (L (4 + 65 * i + s)).erase x = []
  · rw [if_pos he]
    by_cases e : j = i
    · subst e
      simp only [if_true]
      refine ⟨lessBit_lt h1, fun r hr => ?_⟩
      rw [lessBit_bit h1 hs]
      by_cases er : r = s
      · subst er; rw [put_same]; simp [he]
      · rw [put_other _ _ _ (by omega), h2 r hr]; simp [er]
    · simp only [if_neg e]
      exact ⟨h1, fun r hr => by rw [put_other _ _ _ (by omega)]; exact h2 r hr⟩
  · rw [if_neg he]
    refine ⟨h1, fun r hr => ?_⟩
    by_cases e : 4 + 65 * j + r = 4 + 65 * i + s
    · rw [h2 r hr, e, put_same]; simp [he, hne]
    · rw [put_other _ _ _ e]; exact h2 r hr
set_option maxHeartbeats 4000000 in
set_option maxRecDepth 100000 in
theorem takeOut_due (base : Nat) (w : World) (b now : Nat) (m : Value) (V : Nat → Value) (F : Nat → Nat) (L : Nat → List ItemN) (x : ItemN) (h : Wh base w b now m V F L) (hx : x.1 ≤ now) (hp : x ∈ L 2) (hlen : (L 2).length ≤ 1000000) :
    Calls Tryz.prog 69 #[.pointer (some ⟨b, 0, none⟩), pairV x] w fun e w' => e = .returned (.tuple #[]) ∧ ∃ V', Step base w b V w' now m V' F (put L 2 ((L 2).erase x)) := by
  have B1 := Bx.start w x
  have k1 := Lib.hid ((Below.refl w.heap.size w).alloc (Nat.le_refl _) (.cells #[.int .i64 (x.1 : Int), .int .i64 (x.2 : Int)] 100))
  obtain ⟨w1, hw1⟩ : ∃ w1, w.alloc (.cells #[.int .i64 (x.1 : Int), .int .i64 (x.2 : Int)] 100) = w1 := ⟨_, rfl⟩
  rw [hw1] at B1 k1
  have h1 := Lib.hid (h.below k1.out)
  have cw := Lib.hid (fun W (hW : Below w1.heap.size w1 W) => without_any base (V 2) (L 2) x W ((h1.out.below hW).row 2 (.inl rfl)) hp hlen)
  generalize (L 2).erase x = l2 at *
  have hu : Hid (∀ W1 W2 v8, Below w1.heap.size w1 W1 → Turned base W1 (V 2) W2 v8 l2 → W2.cell? ⟨b, 2, none⟩ = some (V 2) ∧ W2.frozen? ⟨b, 2, none⟩ = false ∧ Step base w b V (W2.setCell ⟨b, 2, none⟩ v8) now m (putV V 2 v8) F (put L 2 l2)) := fun W1 W2 v8 hW T => by
    have kk : Below w.heap.size w W1 := k1.out.trans (hW.mono k1.out.size)
    have u := Upd.store (c := 2) kk T h.lt (h.nb 2 (.inl rfl)) (by rw [h.slot 2 (.inl rfl)]; rfl)
    have e8 : W2.heap[b]? = w.heap[b]? := (T.grown.block b (Nat.lt_of_lt_of_le h.lt kk.size) (fun e => h.nb 2 (.inl rfl) e.symm)).trans (kk.block b h.lt)
    exact ⟨(World.cell?_of_block (w := w) (a := ⟨b, 2, none⟩) e8).trans (h.slot 2 (.inl rfl)), (World.frozen?_of_block (w := w) (a := ⟨b, 2, none⟩) e8).trans (h.free 2), h.upd (.inl rfl) u (upd1_same _ _ _) (fun d hd _ => upd1_other _ _ hd) (upd1_full h (.inl rfl) v8)⟩
  have c0 := h1.out.now
  obtain ⟨d0, d1⟩ := B1
  have hS : Hid (∀ W, Below w1.heap.size w1 W → W.cell? ⟨b, 2, none⟩ = some (V 2) ∧ W.cell? ⟨w.heap.size, 0, none⟩ = some (.int .i64 (x.1 : Int)) ∧ W.cell? ⟨w.heap.size, 1, none⟩ = some (.int .i64 (x.2 : Int))) := fun W hW =>
    ⟨(h1.out.below hW).slot 2 (.inl rfl), (hW.cell (p := ⟨w.heap.size, 0, none⟩) (World.block_lt_of_cell? w1 _ d0)).trans d0, (hW.cell (p := ⟨w.heap.size, 1, none⟩) (World.block_lt_of_cell? w1 _ d1)).trans d1⟩
  have hxn : (x.1 : Int) ≤ (now : Int) := by omega
  obtain ⟨x0, x1⟩ := x
  unfold pairV at *
  simp only at hw1 d0 d1 cw hxn hS
  clear h hlen hx k1 hp
  go_enter Tryz.func69, Tryz.ntmps69
  go_upto_region 1 with fail
  clear hw1
  go_quiet (fail)
  have hb : Hid (Below w1.heap.size w1 (w1.drewN nq)) := below_drewN (Below.refl _ _) nq
  go_upto_region 2 with fail
  clear c0 d0 d1 hxn
  generalize w1.drewN nq = w2 at *
  obtain ⟨a2, a0, a1⟩ := hS.out w2 hb.out
  have hb3 := Lib.hid hb.out.drew
  have c3 := Lib.hid (cw.out w2.drew hb3.out)
  clear cw hS
  go_region_with (first
    | (go_at_call 91; (with_reducible refine c3.out.mono ?_); rintro e w8 ⟨v8, rfl, T8⟩; obtain ⟨a8, cap8, rfl, _, _, _⟩ := T8.row.look; obtain ⟨y1, y2, y3⟩ := hu.out _ _ _ hb3.out T8; replace y3 := Lib.hid y3; clear T8))
  all_goals
    go_wp2_with fail
    refine bodyPost_ret (results_none rfl _ _ _) rfl ?_
    exact ⟨rfl, _, y3.out⟩
set_option maxHeartbeats 4000000 in
set_option maxRecDepth 100000 in
theorem takeOut_far (base : Nat) (w : World) (b now : Nat) (m : Value) (V : Nat → Value) (F : Nat → Nat) (L : Nat → List ItemN) (x : ItemN) (h : Wh base w b now m V F L) (hx : now < x.1) (hx2 : (x.1 : Int) ≤ 1099511627776) (h6 : 6 ≤ lev now x.1) (hp : x ∈ L 393) (hlen : (L 393).length ≤ 1000000) :
    Calls Tryz.prog 69 #[.pointer (some ⟨b, 0, none⟩), pairV x] w fun e w' => e = .returned (.tuple #[]) ∧ ∃ V', Step base w b V w' now m V' F (put L 393 ((L 393).erase x)) := by
  have i3 : IsL 393 := .inr (.inl rfl)
  have B1 := Bx.start w x
  have cp := Lib.hid (fun W => place_far now x.1 hx hx2 h6 W)
  have k1 := Lib.hid ((Below.refl w.heap.size w).alloc (Nat.le_refl _) (.cells #[.int .i64 (x.1 : Int), .int .i64 (x.2 : Int)] 100))
  obtain ⟨w1, hw1⟩ : ∃ w1, w.alloc (.cells #[.int .i64 (x.1 : Int), .int .i64 (x.2 : Int)] 100) = w1 := ⟨_, rfl⟩
  rw [hw1] at B1 k1
  have h1 := Lib.hid (h.below k1.out)
  have cw := Lib.hid (fun W (hW : Below w1.heap.size w1 W) => without_any base (V 393) (L 393) x W ((h1.out.below hW).row 393 i3) hp hlen)
  generalize (L 393).erase x = l2 at *
  have hu : Hid (∀ W1 W2 v8, Below w1.heap.size w1 W1 → Turned base W1 (V 393) W2 v8 l2 → W2.cell? ⟨b, 393, none⟩ = some (V 393) ∧ W2.frozen? ⟨b, 393, none⟩ = false ∧ Step base w b V (W2.setCell ⟨b, 393, none⟩ v8) now m (putV V 393 v8) F (put L 393 l2)) := fun W1 W2 v8 hW T => by
    have kk : Below w.heap.size w W1 := k1.out.trans (hW.mono k1.out.size)
    have u := Upd.store (c := 393) kk T h.lt (h.nb 393 i3) (by rw [h.slot 393 i3]; rfl)
    have e8 : W2.heap[b]? = w.heap[b]? := (T.grown.block b (Nat.lt_of_lt_of_le h.lt kk.size) (fun e => h.nb 393 i3 e.symm)).trans (kk.block b h.lt)
    exact ⟨(World.cell?_of_block (w := w) (a := ⟨b, 393, none⟩) e8).trans (h.slot 393 i3), (World.frozen?_of_block (w := w) (a := ⟨b, 393, none⟩) e8).trans (h.free 393), h.upd i3 u (upd1_same _ _ _) (fun d hd _ => upd1_other _ _ hd) (upd1_full h i3 v8)⟩
  have c0 := h1.out.now
  obtain ⟨d0, d1⟩ := B1
  have hS : Hid (∀ W, Below w1.heap.size w1 W → W.cell? ⟨b, 393, none⟩ = some (V 393) ∧ W.cell? ⟨w.heap.size, 0, none⟩ = some (.int .i64 (x.1 : Int)) ∧ W.cell? ⟨w.heap.size, 1, none⟩ = some (.int .i64 (x.2 : Int))) := fun W hW =>
    ⟨(h1.out.below hW).slot 393 i3, (hW.cell (p := ⟨w.heap.size, 0, none⟩) (World.block_lt_of_cell? w1 _ d0)).trans d0, (hW.cell (p := ⟨w.heap.size, 1, none⟩) (World.block_lt_of_cell? w1 _ d1)).trans d1⟩
  have hS0 : Hid (∀ W, Below w1.heap.size w1 W → W.cell? ⟨b, 0, none⟩ = some (.int .i64 (now : Int)) ∧ W.cell? ⟨w.heap.size, 0, none⟩ = some (.int .i64 (x.1 : Int))) := fun W hW =>
    ⟨(h1.out.below hW).now, (hS.out W hW).2.1⟩
  have hxn : ¬ (x.1 : Int) ≤ (now : Int) := by omega
  obtain ⟨x0, x1⟩ := x
  unfold pairV at *
  simp only at hw1 d0 d1 cw cp hxn hS hS0
  clear h hlen hx hx2 h6 k1 hp
  go_enter Tryz.func69, Tryz.ntmps69
  go_upto_region 1 with fail
  clear hw1
  go_quiet (fail)
  have hb : Hid (Below w1.heap.size w1 (w1.drewN nq)) := below_drewN (Below.refl _ _) nq
  go_upto_region 3 with fail
  clear c0 d0 d1 hxn
  generalize w1.drewN nq = w2 at *
  have hcA := hS0.out w2.drew hb.out.drew
  replace hb := Lib.hid hb.out.drew
  go_region_held3 (fun W => W.cell? ⟨b, 0, none⟩ = some (.int .i64 (now : Int)) ∧ W.cell? ⟨w.heap.size, 0, none⟩ = some (.int .i64 (x0 : Int))) (first | (with_reducible exact hcA) | go_keep)
    (first
      | (go_at_call 92; (with_reducible refine (cp.out _).mono ?_); rintro e w6 ⟨rfl, rfl⟩))
  clear hcA cp hS0
  go_upto_region 5 with fail
  generalize w2.drew = w2 at *
  obtain ⟨a2, a0, a1⟩ := hS.out w2 hb.out
  have hb3 := Lib.hid hb.out.drew
  have c3 := Lib.hid (cw.out w2.drew hb3.out)
  clear cw hS
  go_region_with (first
    | (go_at_call 91; (with_reducible refine c3.out.mono ?_); rintro e w8 ⟨v8, rfl, T8⟩; obtain ⟨a8, cap8, rfl, _, _, _⟩ := T8.row.look; obtain ⟨y1, y2, y3⟩ := hu.out _ _ _ hb3.out T8; replace y3 := Lib.hid y3; clear T8))
  all_goals
    go_wp2_with fail
    refine bodyPost_ret (results_none rfl _ _ _) rfl ?_
    exact ⟨rfl, _, y3.out⟩
set_option maxHeartbeats 4000000 in
set_option maxRecDepth 100000 in
theorem takeOut_near (base : Nat) (w : World) (b now : Nat) (m : Value) (V : Nat → Value) (F : Nat → Nat) (L : Nat → List ItemN) (x : ItemN) (h : Wh base w b now m V F L) (hbt : Bits F L) (hx : now < x.1) (hx2 : (x.1 : Int) ≤ 1099511627776) (h6 : lev now x.1 < 6) (hlen : ∀ c, IsL c → (L c).length ≤ 1000000) (hp : x ∈ L (place now x.1)) :
    Calls Tryz.prog 69 #[.pointer (some ⟨b, 0, none⟩), pairV x] w fun e w' => e = .returned (.tuple #[]) ∧ ∃ V' F', Step base w b V w' now m V' F' (put L (place now x.1) ((L (place now x.1)).erase x)) ∧ Bits F' (put L (place now x.1) ((L (place now x.1)).erase x)) := by
  rw [place_slot hx h6] at hp ⊢
  have hs := slot_lt x.1 (lev now x.1)
  have cp := Lib.hid (fun W => place_near' now x.1 hx hx2 h6 W)
  generalize lev now x.1 = i at *
  generalize x.1 / 64 ^ i % 64 = s at *
  have i3 : IsL (4 + 65 * i + s) := .inr (.inr ⟨i, s, h6, hs, rfl⟩)
  have ec : 3 + i * 65 + 1 + s = 4 + 65 * i + s := by omega
  have B1 := Bx.start w x
  have k1 := Lib.hid ((Below.refl w.heap.size w).alloc (Nat.le_refl _) (.cells #[.int .i64 (x.1 : Int), .int .i64 (x.2 : Int)] 100))
  obtain ⟨w1, hw1⟩ : ∃ w1, w.alloc (.cells #[.int .i64 (x.1 : Int), .int .i64 (x.2 : Int)] 100) = w1 := ⟨_, rfl⟩
  rw [hw1] at B1 k1
  have h1 := Lib.hid (h.below k1.out)
  have ca := Lib.hid (fun W (hW : Below w1.heap.size w1 W) => remove_any base b (3 + i * 65) s (F i) (V (4 + 65 * i + s)) (L (4 + 65 * i + s)) x W ((h1.out.below hW).full i h6) (hbt i h6).1 (by rw [ec]; exact (h1.out.below hW).slot _ i3) hs ((h1.out.below hW).free _) ((h1.out.below hW).free _) ((h1.out.below hW).row _ i3) (h.nb _ i3) (Nat.le_trans h.low (Nat.le_of_lt (h1.out.below hW).lt)) (hlen _ i3) hp)
  obtain ⟨F2, hF2⟩ : ∃ F2 : Nat → Nat, F2 = (if (L (4 + 65 * i + s)).erase x = [] then (fun j => if j = i then lessBit (F i) s else F j) else F) := ⟨_, rfl⟩
  have hb2 : Hid (Bits F2 (put L (4 + 65 * i + s) ((L (4 + 65 * i + s)).erase x))) := by
    unfold Hid
    rw [hF2]
    exact hbt.rem h6 hs hp
  have hu : Hid (∀ W W2 v8, Below w1.heap.size w1 W → Upd base b W (V (4 + 65 * i + s)) W2 v8 ((L (4 + 65 * i + s)).erase x) (remF (vw W b) (3 + i * 65 + 1 + s) (3 + i * 65) (.int .u64 ((lessBit (F i) s : Nat) : Int)) ((L (4 + 65 * i + s)).erase x) v8) → Step base w b V W2 now m (putV V (4 + 65 * i + s) v8) F2 (put L (4 + 65 * i + s) ((L (4 + 65 * i + s)).erase x))) := fun W W2 v8 hW u => by
    have kk : Below w.heap.size w W := k1.out.trans (hW.mono k1.out.size)
    have hW2 := h.below kk
    have hne : ∀ d, (d = 0 ∨ d = 1 ∨ IsL d) → d ≠ 3 + i * 65 := fun d hd2 => by
      rcases hd2 with e | e | e
      · omega
      · omega
      · exact isL_full e h6
    by_cases he : (L (4 + 65 * i + s)).erase x = []
    · rw [remF, if_pos he] at u
      rw [hF2, if_pos he]
      refine Step.ahead kk (hW2.upd i3 u ?_ (fun d hd hd2 => ?_) (fun j hj => ?_))
      · rw [upd1_other _ _ (by omega), ec, upd1_same]
      · rw [upd1_other _ _ (hne d hd2), upd1_other _ _ (by omega)]
      · by_cases e : j = i
        · subst e; rw [upd1_same]; simp
        · rw [upd1_other _ _ (by omega), upd1_other _ _ (by omega)]
          simp only [if_neg e]
          exact hW2.full j hj
    · rw [remF, if_neg he] at u
      rw [hF2, if_neg he]
      refine Step.ahead kk (hW2.upd i3 u ?_ (fun d hd hd2 => ?_) (fun j hj => ?_))
      · rw [ec, upd1_same]
      · rw [upd1_other _ _ (by omega)]
      · rw [upd1_other _ _ (by omega)]
        exact hW2.full j hj
  have c0 := h1.out.now
  obtain ⟨d0, d1⟩ := B1
  have hS : Hid (∀ W, Below w1.heap.size w1 W → W.cell? ⟨b, 0, none⟩ = some (.int .i64 (now : Int)) ∧ W.cell? ⟨w.heap.size, 0, none⟩ = some (.int .i64 (x.1 : Int)) ∧ W.cell? ⟨w.heap.size, 1, none⟩ = some (.int .i64 (x.2 : Int))) := fun W hW =>
    ⟨(h1.out.below hW).now, (hW.cell (p := ⟨w.heap.size, 0, none⟩) (World.block_lt_of_cell? w1 _ d0)).trans d0, (hW.cell (p := ⟨w.heap.size, 1, none⟩) (World.block_lt_of_cell? w1 _ d1)).trans d1⟩
  have hxn : ¬ (x.1 : Int) ≤ (now : Int) := by omega
  have hi6 : (i : Int) < 6 := by omega
  have hi7 : ((i : Int) == 6) = false := by rw [beq_eq_false_iff_ne]; omega
  clear hF2
  generalize put L (4 + 65 * i + s) ((L (4 + 65 * i + s)).erase x) = L8 at *
  generalize (L (4 + 65 * i + s)).erase x = l8 at *
  obtain ⟨x0, x1⟩ := x
  unfold pairV at *
  simp only at hw1 d0 d1 cp ca hxn hS
  clear h hlen hx hx2 k1 hbt ec i3 hp
  go_enter Tryz.func69, Tryz.ntmps69
  go_upto_region 1 with fail
  clear hw1
  go_quiet (fail)
  have hb : Hid (Below w1.heap.size w1 (w1.drewN nq)) := below_drewN (Below.refl _ _) nq
  go_upto_region 3 with fail
  clear c0 d0 d1 hxn
  generalize w1.drewN nq = w2 at *
  have hcA := hS.out w2.drew hb.out.drew
  replace hb := Lib.hid hb.out.drew
  go_region_held3 (fun W => W.cell? ⟨b, 0, none⟩ = some (.int .i64 (now : Int)) ∧ W.cell? ⟨w.heap.size, 0, none⟩ = some (.int .i64 (x0 : Int)) ∧ W.cell? ⟨w.heap.size, 1, none⟩ = some (.int .i64 (x1 : Int))) (first | (with_reducible exact hc6) | (with_reducible exact hcA) | go_keep)
    (first
      | (go_at_call 92; (with_reducible refine (cp.out _).mono ?_); rintro e w6 ⟨rfl, k6⟩; replace hb := Lib.hid (hb.out.trans (k6.mono hb.out.size)); have hc6 := hS.out _ hb.out; clear k6))
  clear hcA cp
  obtain ⟨a1, a2, a3⟩ := hc6
  go_upto_region 6 with fail
  have hcB := hS.out w6.drew hb.out.drew
  replace hb := Lib.hid hb.out.drew
  have c7 := Lib.hid (ca.out w6.drew hb.out)
  clear ca
  go_region_with (first
    | (go_at_call 93; (with_reducible refine c7.out.mono ?_); rintro e w8 ⟨rfl, v8, U8⟩; have y3 := Lib.hid (hu.out _ _ _ hb.out U8); clear U8))
  all_goals
    go_end0
    exact ⟨rfl, _, _, y3.out, hb2.out⟩
/-- One goes from where its time, and the wheel's, tell that it is. -/
theorem takeOut_any (base : Nat) (w : World) (b now : Nat) (m : Value) (V : Nat → Value) (F : Nat → Nat) (L : Nat → List ItemN) (x : ItemN) (h : Wh base w b now m V F L) (hbt : Bits F L) (hx2 : x.1 ≤ 1099511627776) (hp : x ∈ L (place now x.1)) (hlen : ∀ c, IsL c → (L c).length ≤ 1000000) :
    Calls Tryz.prog 69 #[.pointer (some ⟨b, 0, none⟩), pairV x] w fun e w' => e = .returned (.tuple #[]) ∧ ∃ V' F', Step base w b V w' now m V' F' (takeOutL now x L) ∧ Bits F' (takeOutL now x L) := by
  unfold takeOutL
  by_cases h1 : x.1 ≤ now
  · rw [place_due h1] at hp ⊢
    refine (takeOut_due base w b now m V F L x h h1 hp (hlen 2 (.inl rfl))).mono ?_
    rintro e w' ⟨he, V', s⟩
    exact ⟨he, V', F, s, hbt.put_out (.inl rfl) _⟩
  · by_cases h6 : 6 ≤ lev now x.1
    · rw [place_beyond (by omega) h6] at hp ⊢
      refine (takeOut_far base w b now m V F L x h (by omega) (by omega) h6 hp (hlen 393 (.inr (.inl rfl)))).mono ?_
      rintro e w' ⟨he, V', s⟩
      exact ⟨he, V', F, s, hbt.put_out (.inr rfl) _⟩
    · exact takeOut_near base w b now m V F L x h hbt (by omega) (by omega) (by omega) hlen hp
end Go.Proofs.YtoihekgmomjhpaaGreatDoor.W
