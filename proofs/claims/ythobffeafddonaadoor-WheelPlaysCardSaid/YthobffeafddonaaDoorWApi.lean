/-
  Layer 6: Advance and Due.
-/
import Derived.Test.YthobffeafddonaaDoorWSet
set_option linter.unusedVariables false
namespace Go.Proofs.YthobffeafddonaaDoor
open Go.RowKit Whl

def dueBy (l : List ItemN) (n : Nat) : List ItemN := l.filter fun p => decide (p.1 ≤ n)
def comeBy (l : List ItemN) (a n : Nat) : List ItemN := l.filter fun p => decide (a < p.1) && decide (p.1 ≤ n)

theorem Rw.le {base base' : Nat} {w : World} {v : Value} {l : List ItemN} (h : Rw base w v l) (hb : base' ≤ base) : Rw base' w v l := by
  refine ⟨h.1, ?_⟩
  rcases h.2 with h2 | ⟨g, cap, cur, e1, e2, e3⟩
  · exact .inl h2
  · exact .inr ⟨g, cap, cur, e1, by omega, e3⟩
/-- A slice from a place on. -/
theorem tail_cells {base : Nat} {w : World} {v : Value} {l : List ItemN} (h : Rw base w v l) (k : Nat) (hk : k ≤ l.length) :
    ∃ (a : Option Addr) (cap : Nat), v = .slice a l.length cap ∧ l.length ≤ cap ∧ cap ≤ maxLen ∧ ((a = none ∧ l.length = 0 ∧ cap = 0) ∨ ∃ g, a = some ⟨g, 0, none⟩) ∧
      ∀ a2 : Option Addr, (a = none → a2 = none) → (∀ g, a = some ⟨g, 0, none⟩ → a2 = (if cap = k then some ⟨g, 0, none⟩ else some ⟨g, k * 2, none⟩)) → ∀ (j : Nat) (u : Value), (flat (l.drop k))[j]? = some u → ∃ b, a2 = some b ∧ w.cell? (b.add j) = some u := by
  rcases h.2 with ⟨h1, h2⟩ | ⟨g, cap, cur, h1, h2, h3, h4, h5, h6⟩
  · refine ⟨none, 0, by rw [h1, h2], by omega, by omega, .inl ⟨rfl, h2, rfl⟩, fun a2 _ _ j u hu => ?_⟩
    have := (List.getElem?_eq_some_iff.1 hu).1
    rw [flat_len, List.length_drop] at this
    omega
  · refine ⟨some ⟨g, 0, none⟩, cap, h1, h4, h5, .inr ⟨g, rfl⟩, fun a2 _ ha2 j u hu => ?_⟩
    have hlt := (List.getElem?_eq_some_iff.1 hu).1
    rw [flat_len, List.length_drop] at hlt
    have ha3 := ha2 g rfl
    rw [if_neg (by omega)] at ha3
    rw [h1] at h
    exact ⟨_, ha3, flat_of_row h k hk j u hu⟩

set_option maxHeartbeats 4000000 in
set_option maxRecDepth 100000 in
theorem advance_any (base : Nat) (w : World) (b now : Nat) (l : List ItemN) (O : Nat → Prop) (n : Int) (h : WT base w b now l O) :
    Calls Tryd.prog 16 #[.pointer (some ⟨b, 0, none⟩), .int .i64 n] w fun e w' => ∃ v' O', e = .returned v' ∧ After base w O w' b (max now (min n 1099511627776).toNat) l O' ∧ Rw w.heap.size w' v' (comeBy l now (max now (min n 1099511627776).toNat)) ∧ ∀ k, v'.ownBlock = some k → ¬ O' k := by
  obtain ⟨m, V, F, L, t, hS, tm, tok, o1, o2⟩ := h.ex
  have htop : max now (min n 1099511627776).toNat ≤ 1099511627776 := by have := h.top; omega
  have cg := Lib.hid (goOn_any base w b now m V F L l hS h.bru h.pos (min n 1099511627776) (by omega))
  have hge : now ≤ max now (min n 1099511627776).toNat := by omega
  generalize max now (min n 1099511627776).toNat = N at *
  have c2 := hS.wh.slot 2 (.inl rfl)
  obtain ⟨a, cap, hv2, _, _, _⟩ := (hS.wh.row 2 (.inl rfl)).look
  have hlen : (L 2).length ≤ 50000 := Nat.le_trans (hS.ok.len 2) hS.len
  have hfin : Hid (∀ w1 V1 F1 L1, Step base w b V w1 N m V1 F1 L1 → Bits F1 L1 → Ok N l L1 → L1 2 = dueBy l now ++ comeBy l now N ∧ After base w O w1 b N l (OwnW b V1 m)) := fun w1 V1 F1 L1 st bt ok => by
    have own : ∀ k, OwnW b V1 m k → O k ∨ w.heap.size ≤ k := fun k hk => by
      rcases hk with e | e
      · rcases st.own k e with g | g
        · exact .inl (o1 k g)
        · exact .inr g
      · exact .inl (o2 k e)
    have kp3 : Kp O w w1 := st.kp.mono (fun i hi => .inl (o1 i hi))
    refine ⟨ok.due.trans (come_due hS.ok.up hge), ⟨⟨⟨m, V1, F1, L1, t, ⟨st.wh, bt, ok, hS.max, hS.len⟩, tm.kp st.kp (TM.apart hS.wh tm), tok, fun k hk => .inl hk, fun mb e => .inr e⟩, h.bru.kp kp3 (fun x hx => Nat.lt_of_lt_of_le h.pos (h.low x hx)), fun k hk => ?_, h.pos, htop⟩, kp3, own⟩⟩
    rcases own k hk with g | g
    · exact h.low k g
    · have := hS.wh.low; have := hS.wh.lt; omega
  have hd : (L 2) = dueBy l now := hS.ok.due
  rw [hd] at hv2 hlen
  rw [hv2] at c2
  have hcl : (comeBy l now N).length ≤ 50000 := Nat.le_trans (List.length_filter_le _ _) hS.len
  clear h hS tm tok o1 o2 hv2 hd
  generalize hk : (dueBy l now).length = k at *
  have hk2 : (k : Int) ≤ 50000 := by omega
  go_enter Tryd.func16, Tryd.ntmps16
  go_wp2_with fail
  refine cg.out.mono ?_
  rintro e w1 ⟨rfl, V1, F1, L1, st, bt, ok⟩
  obtain ⟨hL, A1⟩ := hfin.out w1 V1 F1 L1 st bt ok
  have c3 := st.wh.slot 2 (.inl rfl)
  have hll : (L1 2).length = k + (comeBy l now N).length := by rw [hL, List.length_append, hk]
  obtain ⟨a1, cap1, hv, z1, z2, hcase, hsrc⟩ := tail_cells (st.wh.row 2 (.inl rfl)) k (by omega)
  have hdr : (L1 2).drop k = comeBy l now N := by rw [hL, List.drop_left' hk]
  rw [hdr] at hsrc
  rw [hv, hll] at c3
  rw [hll] at z1 hcase
  have hz2 : (cap1 : Int) ≤ 9223372036854775807 := by simp only [maxLen] at z2; omega
  have hown : ∀ x, OwnW b V1 m x → x < w1.heap.size := fun x hx => by
    rcases hx with e | e
    · exact (st.wh.own_low e).2
    · obtain ⟨m', V', F', L', t', hS', tm', tok', o1', o2'⟩ := A1.wt.ex
      have e1 := hS'.wh.times
      rw [st.wh.times] at e1
      injection e1 with e1
      rcases tm' with ⟨e2, _⟩ | ⟨mb, e2, _, im⟩
      · rw [← e1, e] at e2; cases e2
      · rw [← e1, e] at e2
        injection e2 with e2
        injection e2 with e2
        subst e2
        exact im.lt
  have hsz := A1.kp.size
  have cc := Lib.hid (fun a2 c2 (h1 : a1 = none → a2 = none) (h2 : ∀ g, a1 = some ⟨g, 0, none⟩ → a2 = (if cap1 = k then some ⟨g, 0, none⟩ else some ⟨g, k * 2, none⟩)) => copyOf_any a2 (comeBy l now N).length c2 (comeBy l now N) w1 rfl (hsrc a2 h1 h2) (by omega))
  have hend : Hid (∀ w2 v2, Rw w1.heap.size w2 v2 (comeBy l now N) → Below w1.heap.size w1 w2 → ∃ v' O', v2 = v' ∧ After base w O w2 b N l O' ∧ Rw w.heap.size w2 v' (comeBy l now N) ∧ ∀ k, v'.ownBlock = some k → ¬ O' k) := fun w2 v2 hr hb => by
    refine ⟨v2, OwnW b V1 m, rfl, ⟨A1.wt.below hb, A1.kp.trans (Kp.ofBelow (O := OwnW b V1 m) hb) A1.own, A1.own⟩, hr.le (by omega), fun x hx hO => ?_⟩
    have h1 := (World.ownsRow.lt hr x hx).1
    have h2 := hown x hO
    omega
  clear hsrc hown hsz hdr hll hv A1 hL hfin st bt ok cg c2
  generalize (comeBy l now N).length = q at *
  have hq : (q : Int) ≤ 50000 := by omega
  rcases hcase with ⟨rfl, h0, h1⟩ | ⟨g, rfl⟩
  · have hk0 : k = 0 := by omega
    have hq0 : q = 0 := by omega
    subst hk0 hq0 h1
    have c5 := Lib.hid (cc.out none 0 (fun _ => rfl) (fun g hg => by cases hg))
    go_wp2_with fail
    refine c5.out.mono ?_
    rintro e w2 ⟨v2, rfl, hr2, hb2⟩
    obtain ⟨v', O', rfl, r1, r2, r3⟩ := hend.out w2 v2 hr2 hb2
    go_wp2_with fail
    go_ret
    exact ⟨_, O', rfl, r1, r2, r3⟩
  · have hb5 : (k : Int) ≤ (k : Int) + (q : Int) := by omega
    have hkc : k ≤ cap1 := by omega
    have e0 : ((k + q : Nat) : Int) = (k : Int) + (q : Int) := by omega
    have e1 : k + q - k = q := by omega
    by_cases hkk : cap1 = k
    · subst hkk
      have c5 := Lib.hid (cc.out (some ⟨g, 0, none⟩) 0 (fun e => by cases e) (fun g2 hg => by rw [if_pos rfl]; exact hg))
      go_wp2_with fail
      refine c5.out.mono ?_
      rintro e w2 ⟨v2, rfl, hr2, hb2⟩
      obtain ⟨v', O', rfl, r1, r2, r3⟩ := hend.out w2 v2 hr2 hb2
      go_wp2_with fail
      go_ret
      exact ⟨_, O', rfl, r1, r2, r3⟩
    · have c5 := Lib.hid (cc.out (some ⟨g, k * 2, none⟩) (cap1 - k) (fun e => by cases e) (fun g2 hg => by rw [if_neg hkk]; injection hg with hg; injection hg with hg; rw [hg]))
      go_wp2_with fail
      refine c5.out.mono ?_
      rintro e w2 ⟨v2, rfl, hr2, hb2⟩
      obtain ⟨v', O', rfl, r1, r2, r3⟩ := hend.out w2 v2 hr2 hb2
      go_wp2_with fail
      go_ret
      exact ⟨_, O', rfl, r1, r2, r3⟩
/-- A slice up to a place. -/
theorem head_cells {base : Nat} {w : World} {v : Value} {l : List ItemN} (h : Rw base w v l) (k : Nat) (hk : k ≤ l.length) :
    ∃ (a : Option Addr) (cap : Nat), v = .slice a l.length cap ∧ l.length ≤ cap ∧ cap ≤ maxLen ∧ ((a = none ∧ l.length = 0 ∧ cap = 0) ∨ ∃ g, a = some ⟨g, 0, none⟩) ∧
      ∀ (j : Nat) (u : Value), (flat (l.take k))[j]? = some u → ∃ b, a = some b ∧ w.cell? (b.add j) = some u := by
  rcases h.2 with ⟨h1, h2⟩ | ⟨g, cap, cur, h1, h2, h3, h4, h5, h6⟩
  · refine ⟨none, 0, by rw [h1, h2], by omega, by omega, .inl ⟨rfl, h2, rfl⟩, fun j u hu => ?_⟩
    have := (List.getElem?_eq_some_iff.1 hu).1
    rw [flat_len, List.length_take] at this
    omega
  · refine ⟨some ⟨g, 0, none⟩, cap, h1, h4, h5, .inr ⟨g, rfl⟩, fun j u hu => ?_⟩
    rw [h1] at h
    exact ⟨_, rfl, flat_of_head h k hk j u hu⟩

set_option maxHeartbeats 4000000 in
set_option maxRecDepth 100000 in
theorem due_any (base : Nat) (w : World) (b now : Nat) (l : List ItemN) (O : Nat → Prop) (n : Int) (h : WT base w b now l O) :
    Calls Tryd.prog 18 #[.pointer (some ⟨b, 0, none⟩), .int .i64 n] w fun e w' => ∃ v', e = .returned v' ∧ Rw w.heap.size w' v' ((dueBy l now).take n.toNat) ∧ Below w.heap.size w w' := by
  by_cases h1 : n < 1
  · rw [show n.toNat = 0 by omega, List.take_zero]
    have h2 : decide (n < 1) = true := decide_eq_true h1
    clear h
    go_enter Tryd.func18, Tryd.ntmps18
    go_wp2_with fail
    go_ret
    exact ⟨_, rfl, Rw.nil _ _, Below.refl _ _⟩
  · obtain ⟨m, V, F, L, t, hS, tm, tok, o1, o2⟩ := h.ex
    have hd : (L 2) = dueBy l now := hS.ok.due
    have hlen : (dueBy l now).length ≤ 50000 := Nat.le_trans (List.length_filter_le _ _) hS.len
    have c2 := hS.wh.slot 2 (.inl rfl)
    have hr := hS.wh.row 2 (.inl rfl)
    rw [hd] at hr
    obtain ⟨k, hk⟩ : ∃ k : Nat, min n ((dueBy l now).length : Int) = (k : Int) := ⟨(min n ((dueBy l now).length : Int)).toNat, by omega⟩
    have hkl : k ≤ (dueBy l now).length := by omega
    have htk : (dueBy l now).take n.toNat = (dueBy l now).take k := by
      by_cases h3 : n.toNat ≤ (dueBy l now).length
      · rw [show k = n.toNat by omega]
      · rw [List.take_of_length_le (by omega), List.take_of_length_le (by omega)]
    rw [htk]
    obtain ⟨a, cap, hv, z1, z2, hcase, hsrc⟩ := head_cells hr k hkl
    rw [hv] at c2
    have cc := Lib.hid (fun (W : World) (hW : Below w.heap.size w W) c3 => copyOf_any a k c3 ((dueBy l now).take k) W (by rw [List.length_take]; omega) (fun j u hu => by
      obtain ⟨b2, e1, e2⟩ := hsrc j u hu
      exact ⟨b2, e1, (hW.cell (World.block_lt_of_cell? w _ e2)).trans e2⟩) (by rw [List.length_take]; omega))
    have hz2 : (cap : Int) ≤ 9223372036854775807 := by simp only [maxLen] at z2; omega
    have hn2 : decide (n < 1) = false := decide_eq_false h1
    have hkc : (k : Int) ≤ cap := by omega
    clear h hS tm tok o1 o2 hd hr hv hsrc htk hcase
    generalize (dueBy l now).take k = L8 at *
    generalize (dueBy l now).length = q at *
    have hq : (q : Int) ≤ 50000 := by omega
    go_enter Tryd.func18, Tryd.ntmps18
    go_upto_region 3 with fail
    have c5 := Lib.hid (cc.out w.drew ((Below.refl _ _).drew) cap)
    have hcA : w.drew.cell? ⟨b, 2, none⟩ = some (.slice a q cap) := c2
    clear cc
    go_region_held3 (fun W => W.cell? ⟨b, 2, none⟩ = some (.slice a q cap)) (first | (with_reducible exact hc6) | (with_reducible exact hcA) | go_keep)
      (first
        | (go_at_call 28; (with_reducible refine c5.out.mono ?_); rintro e w6 ⟨v6, rfl, r6, k6⟩; have hc6 := (k6.cell (p := ⟨b, 2, none⟩) (World.block_lt_of_cell? w.drew _ hcA)).trans hcA; replace r6 := Lib.hid r6; replace k6 := Lib.hid k6))
    all_goals
      go_wp2_with fail
      go_ret
      exact ⟨_, rfl, r6.out, ((Below.refl w.heap.size w).drew).trans k6.out⟩
end Go.Proofs.YthobffeafddonaaDoor
