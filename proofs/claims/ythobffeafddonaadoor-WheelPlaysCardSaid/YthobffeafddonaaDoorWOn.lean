/-
  Layer 6: the wheel's goOn.
-/
import Derived.Test.YthobffeafddonaaDoorWGo
import Derived.WalkMore
set_option linter.unusedVariables false
namespace Go.Proofs.YthobffeafddonaaDoor
open Go.RowKit Whl

theorem Bru.kp {w w' : World} {O : Nat → Prop} (t : Bru w) (k : Kp O w w') (ho : ∀ x, O x → 0 < x) : Bru w' := fun j hj => by
  have h := t j hj
  exact (World.cell?_of_block (w := w) (a := ⟨0, j, none⟩) (k.block 0 (World.block_lt_of_cell? w _ h) (fun e => by have := ho 0 e; omega))).trans h
def nowOf (w : World) (b : Nat) : Nat := match w.cell? ⟨b, 0, none⟩ with
  | some (.int _ n) => n.toNat
  | _ => 0
/-- While time goes on. -/
structure Going (base : Nat) (w0 wr : World) (b : Nat) (m : Value) (V0 : Nat → Value) (l : List ItemN) (n : Nat) (V : Nat → Value) (F : Nat → Nat) (L : Nat → List ItemN) : Prop where
  st : Step base w0 b V0 wr n m V F L
  bits : Bits F L
  ok : Ok n l L
  bru : Bru wr
theorem Going.nowOf {base : Nat} {w0 wr : World} {b : Nat} {m : Value} {V0 : Nat → Value} {l : List ItemN} {n : Nat} {V : Nat → Value} {F : Nat → Nat} {L : Nat → List ItemN} (h : Going base w0 wr b m V0 l n V F L) : YthobffeafddonaaDoor.nowOf wr b = n := by
  unfold YthobffeafddonaaDoor.nowOf
  rw [h.st.wh.now]
  simp
theorem bits_empty {F : Nat → Nat} {L : Nat → List ItemN} (h : Bits F L) {i : Nat} (hi : i < 6) (h0 : F i = 0) : ∀ s, s < 64 → L (4 + 65 * i + s) = [] := fun s hs => by
  have := (h i hi).2 s hs
  rw [h0] at this
  simp at this
  exact this
theorem bits_first {F : Nat → Nat} {L : Nat → List ItemN} (h : Bits F L) {i : Nat} (hi : i < 6) (h0 : F i ≠ 0) (hlow : ∀ j, j < i → F j = 0) : First L i (Lib.ctz 64 (F i)) := by
  obtain ⟨h1, h2⟩ := h i hi
  obtain ⟨z1, z2, z3⟩ := zeros_first (F i) h0 h1
  refine ⟨hi, z1, ?_, fun j hj r hr => bits_empty h (by omega) (hlow j hj) r hr, fun r hr => ?_⟩
  · have := h2 _ z1
    rw [z2] at this
    simpa using this.symm
  · have := h2 r (by omega)
    rw [z3 r hr] at this
    simpa using this.symm

theorem Bits.less {F : Nat → Nat} {L : Nat → List ItemN} (h : Bits F L) {i s : Nat} (hi : i < 6) (hs : s < 64) : Bits (fun j => if j = i then lessBit (F i) s else F j) (put L (4 + 65 * i + s) []) := fun j hj => by
  obtain ⟨h1, h2⟩ := h j hj
  by_cases e : j = i
  · subst e
    simp only [if_true]
    refine ⟨lessBit_lt h1, fun r hr => ?_⟩
    rw [lessBit_bit h1 hs]
    by_cases er : r = s
    · subst er; rw [put_same]; simp
    · rw [put_other _ _ _ (by omega), h2 r hr]; simp [er]
  · simp only [if_neg e]
    exact ⟨h1, fun r hr => by rw [put_other _ _ _ (by omega)]; exact h2 r hr⟩
/-- A slot is emptied. -/
theorem empty_step (base : Nat) (w : World) (b now : Nat) (m : Value) (V : Nat → Value) (F : Nat → Nat) (L : Nat → List ItemN) (h : Wh base w b now m V F L) (hbt : Bits F L) {i s : Nat} (hi : i < 6) (hs : s < 64) :
    Calls Tryd.prog 40 #[.pointer (some ⟨b, 3 + i * 65, none⟩), .int .i64 s] w fun e w' => e = .returned (V (4 + 65 * i + s)) ∧ Step base w b V w' now m (putV V (4 + 65 * i + s) (.slice none 0 0)) (fun j => if j = i then lessBit (F i) s else F j) (put L (4 + 65 * i + s) []) ∧ Rw base w' (V (4 + 65 * i + s)) (L (4 + 65 * i + s)) := by
  have i3 : IsL (4 + 65 * i + s) := .inr (.inr ⟨i, s, hi, hs, rfl⟩)
  have ec : 3 + i * 65 + 1 + s = 4 + 65 * i + s := by omega
  refine (empty_any base b (3 + i * 65) s (F i) (V (4 + 65 * i + s)) (L (4 + 65 * i + s)) w (h.full i hi) (hbt i hi).1 (by rw [ec]; exact h.slot _ i3) hs (h.free _) (h.free _) (h.row _ i3) (h.nb _ i3)).mono ?_
  rintro e w' ⟨he, u, hrw⟩
  have sp := h.upd i3 (F' := fun j => if j = i then lessBit (F i) s else F j) u ?_ (fun d hd hd2 => ?_) (fun j hj => ?_)
  · exact ⟨he, sp, hrw⟩
  · rw [upd1_other _ _ (by omega), ec, upd1_same]
  · have : d ≠ 3 + i * 65 := by
      rcases hd2 with e | e | e
      · omega
      · omega
      · exact isL_full e hi
    rw [upd1_other _ _ this, upd1_other _ _ (by omega)]
  · by_cases e : j = i
    · subst e; rw [upd1_same]; simp
    · rw [upd1_other _ _ (by omega), upd1_other _ _ (by omega)]
      simp only [if_neg e]
      exact h.full j hj

theorem goOn_back (base : Nat) (w : World) (b now : Nat) (m : Value) (V : Nat → Value) (F : Nat → Nat) (L : Nat → List ItemN) (h : Wh base w b now m V F L) (t : Int) (ht : t ≤ now) :
    Calls Tryd.prog 27 #[.pointer (some ⟨b, 0, none⟩), .int .i64 t] w fun e w' => e = .returned (.tuple #[]) ∧ w = w' := by
  have c0 := h.now
  clear h
  go_enter Tryd.func27, Tryd.ntmps27
  go_step3
  go_wp2_with fail
  try rw [Exit.noGoto_ret]
  refine bodyPost_ret (results_none rfl _ _ _) rfl ?_
  exact ⟨rfl, rfl⟩

set_option maxHeartbeats 4000000 in
set_option maxRecDepth 100000 in
theorem goOn_on (base : Nat) (w : World) (b now : Nat) (m : Value) (V : Nat → Value) (F : Nat → Nat) (L : Nat → List ItemN) (l : List ItemN) (h : WhlS base w b now m V F L l) (tb : Bru w) (hbase : 0 < base) (tt : Nat) (ht : now < tt) (ht2 : (tt : Int) ≤ 1099511627776) :
    Calls Tryd.prog 27 #[.pointer (some ⟨b, 0, none⟩), .int .i64 tt] w fun e w' => e = .returned (.tuple #[]) ∧ ∃ V' F' L', Step base w b V w' tt m V' F' L' ∧ Bits F' L' ∧ Ok tt l L' := by
  have G0 : Hid (Going base w w b m V l now V F L) := ⟨⟨h.wh, Kp.refl _ _, fun k hk => .inl hk⟩, h.bits, h.ok, tb⟩
  have c0 := h.wh.now
  have hmax := Lib.hid h.max
  have hlen := Lib.hid h.len
  clear h tb
  have ht1 : ¬ (tt : Int) ≤ (now : Int) := by omega
  have ht3 : (now : Int) ≤ tt := by omega
  go_enter Tryd.func27, Tryd.ntmps27
  go_step3
  go_wp2_with fail
  go_step3
  go_wp2_with fail
  clear c0 ht1
  go_loopw [14] (fun v wr => ∃ (n : Nat) (V1 : Nat → Value) (F1 : Nat → Nat) (L1 : Nat → List ItemN), (n : Int) ≤ tt ∧ Hid (Going base w wr b m V l n V1 F1 L1)) (fun _ wr => tt - nowOf wr b)
  case atStart => exact ⟨now, V, F, L, ht3, G0⟩
  case round =>
    obtain ⟨n, V1, F1, L1, hn, G⟩ := hrel
    clear G0
    have hno := Lib.hid G.out.nowOf
    go_wp2_with fail
    go_loopw [14] (fun v w2 => ∃ i : Nat, v = .int .i64 i ∧ (i : Int) ≤ 6 ∧ Hid (∀ j, j < i → F1 j = 0) ∧ wr = w2) (fun v _ => (6 - intOf v).toNat)
    case atStart => exact ⟨0, rfl, by omega, fun j hj => by omega, rfl⟩
    case round =>
      obtain ⟨i, rfl, hi, hlow, rfl⟩ := hrel
      by_cases hi6 : (i : Int) < 6
      · have hi7 : i < 6 := by omega
        have cf := G.out.st.wh.full i hi7
        by_cases h0 : F1 i = 0
        · have c1 := Lib.hid (first_none b (3 + i * 65) wr (by rw [cf, h0]; rfl))
          clear cf
          go_wp2_with fail
          refine c1.out.mono ?_
          rintro e w3 ⟨rfl, rfl⟩
          go_wp2_with fail
          exact ⟨⟨i + 1, by go_num, by omega, fun j hj => by
            rcases Nat.lt_or_ge j i with e | e
            · exact hlow.out j e
            · rw [show j = i by omega]; exact h0, by first | rfl | trivial⟩, by simp [intOf]; omega⟩
        · have c1 := Lib.hid (first_some b (3 + i * 65) (F1 i) wr cf h0 (G.out.bits i hi7).1 G.out.bru)
          have hf := Lib.hid (bits_first G.out.bits hi7 h0 hlow.out)
          have hs := (zeros_first (F1 i) h0 (G.out.bits i hi7).1).1
          generalize Lib.ctz 64 (F1 i) = s at *
          clear cf
          go_wp2_with fail
          refine c1.out.mono ?_
          rintro e w3 ⟨rfl, rfl⟩
          have c2 := Lib.hid (fun W => beginning_any n i s (by omega) hi7 (by omega) W)
          have hbl := bgn_le (now := n) (i := i) (s := s) (by omega) hi7 hs
          have c0 := G.out.st.wh.now
          obtain ⟨hstep1, hstep2⟩ := hf.out.step G.out.ok
          have hstop : Hid (tt < bgn n i s → Ok tt l L1) := fun hlt => (hf.out.stop G.out.ok (by omega) hlt).1
          have hcut : Hid (Ok (bgn n i s) (l.filter fun p => place n p.1 != 4 + 65 * i + s) (put L1 (4 + 65 * i + s) [])) := by
            obtain ⟨p, hp, hl, hn1, e1, e2⟩ := hf.out.some G.out.ok
            obtain ⟨eb, hb1⟩ := hf.out.begin G.out.ok hp
            refine G.out.ok.cut (Nat.le_of_lt hb1) (by omega) fun q hq hqn hne => ?_
            have := hf.out.others G.out.ok hp hq hqn hne
            have := bg_le n p.1
            omega
          have hB : (bgn n i s : Int) ≤ 1168231104512 := by omega
          have hB0 : Hid (n < bgn n i s) := hstep1
          replace hstep2 := Lib.hid hstep2
          clear hstep1 hbl
          generalize bgn n i s = B at *
          have s1 := Lib.hid (G.out.st.wh.setNow B)
          have g0 := G.out.st.wh.free 0
          have c3 := Lib.hid (empty_step base _ b B m V1 F1 L1 s1.out.wh G.out.bits hi7 hs)
          have s0 := Lib.hid (G.out.st.wh.setNow tt)
          have c4 := Lib.hid (fun W (st : Step base (wr.setCell ⟨b, 0, none⟩ (.int .i64 (B : Int))) b V1 W B m (putV V1 (4 + 65 * i + s) (.slice none 0 0)) (fun j => if j = i then lessBit (F1 i) s else F1 j) (put L1 (4 + 65 * i + s) [])) (hrw : Rw base W (V1 (4 + 65 * i + s)) (L1 (4 + 65 * i + s))) =>
            putInAll_any base W b B m _ _ _ _ (L1 (4 + 65 * i + s)) (V1 (4 + 65 * i + s)) st.wh (G.out.bits.less hi7 hs) hcut.out hrw (drop_own G.out.st.wh (.inr (.inr ⟨i, s, hi7, hs, rfl⟩))) (G.out.ok.nodup _) (fun p hp hm => by
              have h1 := (G.out.ok.mem.1 hp).2
              have h2 := (List.mem_filter.1 hm).2
              simp_all) (fun p hp => hmax.out p (G.out.ok.mem.1 hp).1) (by
              have h1 := List.length_filter_le (fun p : ItemN => place n p.1 != 4 + 65 * i + s) l
              have h2 := hlen.out
              have h3 := G.out.ok.len (4 + 65 * i + s)
              omega))
          go_wp2_with fail
          refine (c2.out _).mono ?_
          rintro e w3 ⟨rfl, rfl⟩
          clear c1 c2
          by_cases hgt : (tt : Int) < B
          · have hok := Lib.hid (hstop.out (by omega))
            clear hstop c3 c4 s1 hstep2 hcut
            go_wp2_with fail
            try rw [Exit.noGoto_normal]
            go_end0
            exact ⟨rfl, _, _, _, G.out.st.trans s0.out, G.out.bits, hok.out⟩
          · clear hstop s0
            go_wp2_with fail
            refine c3.out.mono ?_
            rintro e w4 ⟨rfl, st4, rw4⟩
            have c5 := Lib.hid (c4.out w4 st4 rw4)
            have stW := Lib.hid (s1.out.trans st4)
            clear c3 c4 st4 rw4
            go_wp2_with fail
            refine c5.out.mono ?_
            rintro e w6 ⟨rfl, V6, F6, st6, b6⟩
            have stX := stW.out.trans st6
            have G6 : Hid (Going base w w6 b m V l B V6 F6 (putAllL B (L1 (4 + 65 * i + s)) (put L1 (4 + 65 * i + s) []))) := ⟨G.out.st.trans stX, b6, hstep2.out, G.out.bru.kp stX.kp (fun x hx => Nat.lt_of_lt_of_le hbase (G.out.st.wh.own_low hx).1)⟩
            clear c5 st6 b6 stX stW
            go_wp2_with fail
            exact ⟨⟨B, V6, F6, _, by omega, G6⟩, by rw [G6.out.nowOf, hno.out]; have := hB0.out; omega⟩
      · have hall : Empty6 L1 := fun j s hj hs => bits_empty G.out.bits hj (hlow.out j (by omega)) s hs
        have hS : WhlS base wr b n m V1 F1 L1 l := ⟨G.out.st.wh, G.out.bits, G.out.ok, hmax.out, hlen.out⟩
        have s0 := Lib.hid (fun W (k : Below wr.heap.size wr W) => (G.out.st.wh.below k).setNow tt)
        have g0 := Lib.hid (fun W (k : Below wr.heap.size wr W) => And.intro (G.out.st.wh.below k).now ((G.out.st.wh.below k).free 0))
        by_cases h0 : L1 393 = []
        · have cr := Lib.hid (comeRound_none base wr b n m V1 F1 L1 l hS h0 tt)
          have hok := Lib.hid (G.out.ok.none hall h0 (show n ≤ tt by omega)).1
          clear hall hS h0
          go_wp2_with fail
          refine cr.out.mono ?_
          rintro e w3 ⟨rfl, k⟩
          obtain ⟨q1, q2⟩ := g0.out w3 k
          have s1 := Lib.hid (G.out.st.trans (Step.ahead k (s0.out w3 k)))
          clear cr k g0 s0
          go_wp2_with fail
          try rw [Exit.noGoto_normal]
          go_end0
          exact ⟨rfl, _, _, _, s1.out, G.out.bits, hok.out⟩
        · have cr := Lib.hid (comeRound_some base wr b n m V1 F1 L1 l hS hall h0 tt (by omega) ht2)
          clear hall hS h0
          go_wp2_with fail
          refine cr.out.mono ?_
          rintro e w3 (⟨rfl, k, hok, _⟩ | ⟨rfl, n2, V2, F2, L2, hn2, hn3, st2, b2, ok2⟩)
          · obtain ⟨q1, q2⟩ := g0.out w3 k
            have s1 := Lib.hid (G.out.st.trans (Step.ahead k (s0.out w3 k)))
            replace hok := Lib.hid hok
            clear cr k g0 s0
            go_wp2_with fail
            try rw [Exit.noGoto_normal]
            go_end0
            exact ⟨rfl, _, _, _, s1.out, G.out.bits, hok.out⟩
          · have G6 : Hid (Going base w w3 b m V l n2 V2 F2 L2) := ⟨G.out.st.trans st2, b2, ok2, G.out.bru.kp st2.kp (fun x hx => Nat.lt_of_lt_of_le hbase (G.out.st.wh.own_low hx).1)⟩
            replace hn2 := Lib.hid hn2
            clear cr st2 b2 ok2 g0 s0
            go_wp2_with fail
            exact ⟨⟨n2, V2, F2, L2, by omega, G6⟩, by rw [G6.out.nowOf, hno.out]; have := hn2.out; omega⟩
end Go.Proofs.YthobffeafddonaaDoor
