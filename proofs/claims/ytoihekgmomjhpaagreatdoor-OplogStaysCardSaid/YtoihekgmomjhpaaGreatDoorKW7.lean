/-
  Texts laid into one (a claim has 60 files at most): WOn, WTimes, WNew, WSet.
-/
import Derived.Test.YtoihekgmomjhpaaGreatDoorKW6
import Derived.WalkMore
import Derived.Maps.Own
import Derived.WalkSpells
import Derived.Lib.MinMax
/-
  Layer 6: the wheel's goOn.
-/
set_option linter.unusedVariables false
namespace Go.Proofs.YtoihekgmomjhpaaGreatDoor.W
open Go.RowKit Whl
theorem Bru.kp {w w' : World} {O : Nat → Prop} (t : Bru w) (k : Kp O w w') (ho : ∀ x, O x → 0 < x) : Bru w' := fun j hj => by
  have h := t j hj
  exact (World.cell?_of_block (w := w) (a := ⟨0, j, none⟩) (k.block 0 (World.block_lt_of_cell? w _ h) (fun e => by have := ho 0 e; omega))).trans h
def nowOf (w : World) (b : Nat) : Nat := match w.cell? ⟨b, 0, none⟩ with
  | some (.int _ n) => n.toNat
  | _ => 0
/-- While time goes on. -/
structure Going (base : Nat) (w0 wr : World) (b : Nat) (m : Value) (V0 : Nat → Value) (l : List ItemN) (n : Nat) (V : Nat → Value) (F : Nat → Nat) (L : Nat → List ItemN) : Prop where
  st : Step base w0 b V0 wr n m V F L
  bits : Bits F L
  ok : Ok n l L
  bru : Bru wr
theorem Going.nowOf {base : Nat} {w0 wr : World} {b : Nat} {m : Value} {V0 : Nat → Value} {l : List ItemN} {n : Nat} {V : Nat → Value} {F : Nat → Nat} {L : Nat → List ItemN} (h : Going base w0 wr b m V0 l n V F L) : YtoihekgmomjhpaaGreatDoor.W.nowOf wr b = n := by
  unfold YtoihekgmomjhpaaGreatDoor.W.nowOf
  rw [h.st.wh.now]
  simp
theorem bits_empty {F : Nat → Nat} {L : Nat → List ItemN} (h : Bits F L) {i : Nat} (hi : i < 6) (h0 : F i = 0) : ∀ s, s < 64 → L (4 + 65 * i + s) = [] := fun s hs => by
  have := (h i hi).2 s hs
  rw [h0] at this
  simp at this
  exact this
theorem bits_first {F : Nat → Nat} {L : Nat → List ItemN} (h : Bits F L) {i : Nat} (hi : i < 6) (h0 : F i ≠ 0) (hlow : ∀ j, j < i → F j = 0) : First L i (Lib.ctz 64 (F i)) := by
  obtain ⟨h1, h2⟩ := h i hi
  obtain ⟨z1, z2, z3⟩ := zeros_first (F i) h0 h1
  refine ⟨hi, z1, ?_, fun j hj r hr => bits_empty h (by omega) (hlow j hj) r hr, fun r hr => ?_⟩
  · have := h2 _ z1
    rw [z2] at this
    simpa using this.symm
  · have := h2 r (by omega)
    rw [z3 r hr] at this
    simpa using this.symm
theorem Bits.less {F : Nat → Nat} {L : Nat → List ItemN} (h : Bits F L) {i s : Nat} (hi : i < 6) (hs : s < 64) : Bits (fun j => if j = i then lessBit (F i) s else F j) (put L (4 + 65 * i + s) []) := fun j hj => by
  obtain ⟨h1, h2⟩ := h j hj
  by_cases e : j = i
  · subst e
    simp only [if_true]
    refine ⟨lessBit_lt h1, fun r hr => ?_⟩
    rw [lessBit_bit h1 hs]
    by_cases er : r = s
    · subst er; rw [put_same]; simp
    · rw [put_other _ _ _ (by omega), h2 r hr]; simp [er]
  · simp only [if_neg e]
    exact ⟨h1, fun r hr => by rw [put_other _ _ _ (by omega)]; exact h2 r hr⟩
/-- A slot is emptied. -/
theorem empty_step (base : Nat) (w : World) (b now : Nat) (m : Value) (V : Nat → Value) (F : Nat → Nat) (L : Nat → List ItemN) (h : Wh base w b now m V F L) (hbt : Bits F L) {i s : Nat} (hi : i < 6) (hs : s < 64) :
    Calls Tryz.prog 81 #[.pointer (some ⟨b, 3 + i * 65, none⟩), .int .i64 s] w fun e w' => e = .returned (V (4 + 65 * i + s)) ∧ Step base w b V w' now m (putV V (4 + 65 * i + s) (.slice none 0 0)) (fun j => if j = i then lessBit (F i) s else F j) (put L (4 + 65 * i + s) []) ∧ Rw base w' (V (4 + 65 * i + s)) (L (4 + 65 * i + s)) := by
  have i3 : IsL (4 + 65 * i + s) := .inr (.inr ⟨i, s, hi, hs, rfl⟩)
  have ec : 3 + i * 65 + 1 + s = 4 + 65 * i + s := by omega
  refine (empty_any base b (3 + i * 65) s (F i) (V (4 + 65 * i + s)) (L (4 + 65 * i + s)) w (h.full i hi) (hbt i hi).1 (by rw [ec]; exact h.slot _ i3) hs (h.free _) (h.free _) (h.row _ i3) (h.nb _ i3)).mono ?_
  rintro e w' ⟨he, u, hrw⟩
  have sp := h.upd i3 (F' := fun j => if j = i then lessBit (F i) s else F j) u ?_ (fun d hd hd2 => ?_) (fun j hj => ?_)
  · exact ⟨he, sp, hrw⟩
  · rw [upd1_other _ _ (by omega), ec, upd1_same]
  · have : d ≠ 3 + i * 65 := by
      rcases hd2 with e | e | e
      · omega
      · omega
      · exact isL_full e hi
    rw [upd1_other _ _ this, upd1_other _ _ (by omega)]
  · by_cases e : j = i
    · subst e; rw [upd1_same]; simp
    · rw [upd1_other _ _ (by omega), upd1_other _ _ (by omega)]
      simp only [if_neg e]
      exact h.full j hj
theorem goOn_back (base : Nat) (w : World) (b now : Nat) (m : Value) (V : Nat → Value) (F : Nat → Nat) (L : Nat → List ItemN) (h : Wh base w b now m V F L) (t : Int) (ht : t ≤ now) :
    Calls Tryz.prog 64 #[.pointer (some ⟨b, 0, none⟩), .int .i64 t] w fun e w' => e = .returned (.tuple #[]) ∧ w = w' := by
  have c0 := h.now
  clear h
  go_enter Tryz.func64, Tryz.ntmps64
  go_step3
  go_wp2_with fail
  try rw [Exit.noGoto_ret]
  refine bodyPost_ret (results_none rfl _ _ _) rfl ?_
  exact ⟨rfl, rfl⟩
set_option maxHeartbeats 4000000 in
set_option maxRecDepth 100000 in
theorem goOn_on (base : Nat) (w : World) (b now : Nat) (m : Value) (V : Nat → Value) (F : Nat → Nat) (L : Nat → List ItemN) (l : List ItemN) (h : WhlS base w b now m V F L l) (tb : Bru w) (hbase : 0 < base) (tt : Nat) (ht : now < tt) (ht2 : (tt : Int) ≤ 1099511627776) :
    Calls Tryz.prog 64 #[.pointer (some ⟨b, 0, none⟩), .int .i64 tt] w fun e w' => e = .returned (.tuple #[]) ∧ ∃ V' F' L', Step base w b V w' tt m V' F' L' ∧ Bits F' L' ∧ Ok tt l L' := by
  have G0 : Hid (Going base w w b m V l now V F L) := ⟨⟨h.wh, Kp.refl _ _, fun k hk => .inl hk⟩, h.bits, h.ok, tb⟩
  have c0 := h.wh.now
  have hmax := Lib.hid h.max
  have hlen := Lib.hid h.len
  clear h tb
  have ht1 : ¬ (tt : Int) ≤ (now : Int) := by omega
  have ht3 : (now : Int) ≤ tt := by omega
  go_enter Tryz.func64, Tryz.ntmps64
  go_step3
  go_wp2_with fail
  go_step3
  go_wp2_with fail
  clear c0 ht1
  go_loopw [14] (fun v wr => ∃ (n : Nat) (V1 : Nat → Value) (F1 : Nat → Nat) (L1 : Nat → List ItemN), (n : Int) ≤ tt ∧ Hid (Going base w wr b m V l n V1 F1 L1)) (fun _ wr => tt - nowOf wr b)
  case atStart => exact ⟨now, V, F, L, ht3, G0⟩
  case round =>
    obtain ⟨n, V1, F1, L1, hn, G⟩ := hrel
    clear G0
    have hno := Lib.hid G.out.nowOf
    go_wp2_with fail
    go_loopw [14] (fun v w2 => ∃ i : Nat, v = .int .i64 i ∧ (i : Int) ≤ 6 ∧ Hid (∀ j, j < i → F1 j = 0) ∧ wr = w2) (fun v _ => (6 - intOf v).toNat)
    case atStart => exact ⟨0, rfl, by omega, fun j hj => by omega, rfl⟩
    case round =>
      obtain ⟨i, rfl, hi, hlow, rfl⟩ := hrel
      by_cases hi6 : (i : Int) < 6
      · have hi7 : i < 6 := by omega
        have cf := G.out.st.wh.full i hi7
        by_cases h0 : F1 i = 0
        · have c1 := Lib.hid (first_none b (3 + i * 65) wr (by rw [cf, h0]; rfl))
          clear cf
          go_wp2_with fail
          refine c1.out.mono ?_
          rintro e w3 ⟨rfl, rfl⟩
          go_wp2_with fail
          exact ⟨⟨i + 1, by go_num, by omega, fun j hj => by
            rcases Nat.lt_or_ge j i with e | e
            · exact hlow.out j e
            · rw [show j = i by omega]; exact h0, by first | rfl | trivial⟩, by simp [intOf]; omega⟩
        · have c1 := Lib.hid (first_some b (3 + i * 65) (F1 i) wr cf h0 (G.out.bits i hi7).1 G.out.bru)
          have hf := Lib.hid (bits_first G.out.bits hi7 h0 hlow.out)
          have hs := (zeros_first (F1 i) h0 (G.out.bits i hi7).1).1
          generalize Lib.ctz 64 (F1 i) = s at *
          clear cf
          go_wp2_with fail
          refine c1.out.mono ?_
          rintro e w3 ⟨rfl, rfl⟩
          have c2 := Lib.hid (fun W => beginning_any n i s (by omega) hi7 (by omega) W)
          have hbl := bgn_le (now := n) (i := i) (s := s) (by omega) hi7 hs
          have c0 := G.out.st.wh.now
          obtain ⟨hstep1, hstep2⟩ := hf.out.step G.out.ok
          have hstop : Hid (tt < bgn n i s → Ok tt l L1) := fun hlt => (hf.out.stop G.out.ok (by omega) hlt).1
          have hcut : Hid (Ok (bgn n i s) (l.filter fun p => place n p.1 != 4 + 65 * i + s) (put L1 (4 + 65 * i + s) [])) := by
            obtain ⟨p, hp, hl, hn1, e1, e2⟩ := hf.out.some G.out.ok
            obtain ⟨eb, hb1⟩ := hf.out.begin G.out.ok hp
            refine G.out.ok.cut (Nat.le_of_lt hb1) (by omega) fun q hq hqn hne => ?_
            have := hf.out.others G.out.ok hp hq hqn hne
            have := bg_le n p.1
            omega
          have hB : (bgn n i s : Int) ≤ 1168231104512 := by omega
          have hB0 : Hid (n < bgn n i s) := hstep1
          replace hstep2 := Lib.hid hstep2
          clear hstep1 hbl
          generalize bgn n i s = B at *
          have s1 := Lib.hid (G.out.st.wh.setNow B)
          have g0 := G.out.st.wh.free 0
          have c3 := Lib.hid (empty_step base _ b B m V1 F1 L1 s1.out.wh G.out.bits hi7 hs)
          have s0 := Lib.hid (G.out.st.wh.setNow tt)
          have c4 := Lib.hid (fun W (st : Step base (wr.setCell ⟨b, 0, none⟩ (.int .i64 (B : Int))) b V1 W B m (putV V1 (4 + 65 * i + s) (.slice none 0 0)) (fun j => if j = i then lessBit (F1 i) s else F1 j) (put L1 (4 + 65 * i + s) [])) (hrw : Rw base W (V1 (4 + 65 * i + s)) (L1 (4 + 65 * i + s))) =>
            putInAll_any base W b B m _ _ _ _ (L1 (4 + 65 * i + s)) (V1 (4 + 65 * i + s)) st.wh (G.out.bits.less hi7 hs) hcut.out hrw (drop_own G.out.st.wh (.inr (.inr ⟨i, s, hi7, hs, rfl⟩))) (G.out.ok.nodup _) (fun p hp hm => by
              have h1 := (G.out.ok.mem.1 hp).2
              have h2 := (List.mem_filter.1 hm).2
              simp_all) (fun p hp => hmax.out p (G.out.ok.mem.1 hp).1) (by
              have h1 := List.length_filter_le (fun p : ItemN => place n p.1 != 4 + 65 * i + s) l
              have h2 := hlen.out
              have h3 := G.out.ok.len (4 + 65 * i + s)
              omega))
          go_wp2_with fail
          refine (c2.out _).mono ?_
          rintro e w3 ⟨rfl, rfl⟩
          clear c1 c2
          by_cases hgt : (tt : Int) < B
          · have hok := Lib.hid (hstop.out (by omega))
            clear hstop c3 c4 s1 hstep2 hcut
            go_wp2_with fail
            try rw [Exit.noGoto_normal]
            go_end0
            exact ⟨rfl, _, _, _, G.out.st.trans s0.out, G.out.bits, hok.out⟩
          · clear hstop s0
            go_wp2_with fail
            refine c3.out.mono ?_
            rintro e w4 ⟨rfl, st4, rw4⟩
            have c5 := Lib.hid (c4.out w4 st4 rw4)
            have stW := Lib.hid (s1.out.trans st4)
            clear c3 c4 st4 rw4
            go_wp2_with fail
            refine c5.out.mono ?_
            rintro e w6 ⟨rfl, V6, F6, st6, b6⟩
            have stX := stW.out.trans st6
            have G6 : Hid (Going base w w6 b m V l B V6 F6 (putAllL B (L1 (4 + 65 * i + s)) (put L1 (4 + 65 * i + s) []))) := ⟨G.out.st.trans stX, b6, hstep2.out, G.out.bru.kp stX.kp (fun x hx => Nat.lt_of_lt_of_le hbase (G.out.st.wh.own_low hx).1)⟩
            clear c5 st6 b6 stX stW
            go_wp2_with fail
            exact ⟨⟨B, V6, F6, _, by omega, G6⟩, by rw [G6.out.nowOf, hno.out]; have := hB0.out; omega⟩
      · have hall : Empty6 L1 := fun j s hj hs => bits_empty G.out.bits hj (hlow.out j (by omega)) s hs
        have hS : WhlS base wr b n m V1 F1 L1 l := ⟨G.out.st.wh, G.out.bits, G.out.ok, hmax.out, hlen.out⟩
        have s0 := Lib.hid (fun W (k : Below wr.heap.size wr W) => (G.out.st.wh.below k).setNow tt)
        have g0 := Lib.hid (fun W (k : Below wr.heap.size wr W) => And.intro (G.out.st.wh.below k).now ((G.out.st.wh.below k).free 0))
        by_cases h0 : L1 393 = []
        · have cr := Lib.hid (comeRound_none base wr b n m V1 F1 L1 l hS h0 tt)
          have hok := Lib.hid (G.out.ok.none hall h0 (show n ≤ tt by omega)).1
          clear hall hS h0
          go_wp2_with fail
          refine cr.out.mono ?_
          rintro e w3 ⟨rfl, k⟩
          obtain ⟨q1, q2⟩ := g0.out w3 k
          have s1 := Lib.hid (G.out.st.trans (Step.ahead k (s0.out w3 k)))
          clear cr k g0 s0
          go_wp2_with fail
          try rw [Exit.noGoto_normal]
          go_end0
          exact ⟨rfl, _, _, _, s1.out, G.out.bits, hok.out⟩
        · have cr := Lib.hid (comeRound_some base wr b n m V1 F1 L1 l hS hall h0 tt (by omega) ht2)
          clear hall hS h0
          go_wp2_with fail
          refine cr.out.mono ?_
          rintro e w3 (⟨rfl, k, hok, _⟩ | ⟨rfl, n2, V2, F2, L2, hn2, hn3, st2, b2, ok2⟩)
          · obtain ⟨q1, q2⟩ := g0.out w3 k
            have s1 := Lib.hid (G.out.st.trans (Step.ahead k (s0.out w3 k)))
            replace hok := Lib.hid hok
            clear cr k g0 s0
            go_wp2_with fail
            try rw [Exit.noGoto_normal]
            go_end0
            exact ⟨rfl, _, _, _, s1.out, G.out.bits, hok.out⟩
          · have G6 : Hid (Going base w w3 b m V l n2 V2 F2 L2) := ⟨G.out.st.trans st2, b2, ok2, G.out.bru.kp st2.kp (fun x hx => Nat.lt_of_lt_of_le hbase (G.out.st.wh.own_low hx).1)⟩
            replace hn2 := Lib.hid hn2
            clear cr st2 b2 ok2 g0 s0
            go_wp2_with fail
            exact ⟨⟨n2, V2, F2, L2, by omega, G6⟩, by rw [G6.out.nowOf, hno.out]; have := hn2.out; omega⟩
end Go.Proofs.YtoihekgmomjhpaaGreatDoor.W

/-
  Layer 6: the wheel's map of times, and the wheel as a whole.
-/
set_option linter.unusedVariables false
namespace Go.Proofs.YtoihekgmomjhpaaGreatDoor.W
set_option maxRecDepth 100000
open Go.RowKit Whl Go.ChangeMaps
theorem keyed3 : Go.Maps.Keyed Tryz.prog 3 := Go.Maps.int_keyed Tryz.underlying3
theorem map50 : Tryz.prog.underlying 109 = some (.map 3 3) := Tryz.underlying109
theorem wf_int {a : Int} (h1 : -9223372036854775808 ≤ a) (h2 : a ≤ 9223372036854775807) : (Lit.int .i64 a).wf = true := by
  simp [Lit.wf]
  exact ⟨by show (-9223372036854775808 : Int) ≤ a; exact h1, h2⟩
theorem key_int {a : Int} (h1 : -9223372036854775808 ≤ a) (h2 : a ≤ 9223372036854775807) : keyOf Tryz.prog 3 (.int .i64 a) = some (.int .i64 a) := Go.Maps.keyOf_int_mk Tryz.underlying3 (wf_int h1 h2)
/-- The block mb is a map of these ids and times. -/
def IntMap (w : World) (mb : Nat) (t : List (Nat × Nat)) : Prop :=
  ∃ es clock, w.heap[mb]? = some (.map es clock) ∧ es.toList.map (fun e => (e.key, e.val)) = t.map fun p => (Value.int .i64 (p.1 : Int), Value.int .i64 (p.2 : Int))
theorem IntMap.kept {w w' : World} {mb : Nat} {t : List (Nat × Nat)} (h : IntMap w mb t) (k : w'.heap[mb]? = w.heap[mb]?) : IntMap w' mb t := by
  obtain ⟨es, clock, h1, h2⟩ := h
  exact ⟨es, clock, k.trans h1, h2⟩
theorem IntMap.lt {w : World} {mb : Nat} {t : List (Nat × Nat)} (h : IntMap w mb t) : mb < w.heap.size := by
  obtain ⟨es, clock, h1, h2⟩ := h
  exact (Array.getElem?_eq_some_iff.1 h1).1
theorem IntMap.made (w : World) : IntMap (w.alloc (.map #[] 0)) w.heap.size [] := ⟨#[], 0, (MapKept.heap_alloc w _).1, rfl⟩
theorem IntMap.len {w : World} {mb : Nat} {t : List (Nat × Nat)} (h : IntMap w mb t) (ty : TypeId) : (Builtin.len_ #[109] ty #[.map (some mb)]).run Tryz.prog w = .ok (.int .i64 t.length) w := by
  obtain ⟨es, clock, h1, h2⟩ := h
  have e : es.size = t.length := by
    have := congrArg List.length h2
    simpa using this
  simp [Builtin.len_, run_underlying map50, MapKept.run_getObj_map h1, goInt, Result.andThen, e]
theorem intmap_keys {t : List (Nat × Nat)} {es : Array MapEntry} (hl : ∀ p ∈ t, p.1 ≤ 1048576) (he : es.toList.map (fun e => (e.key, e.val)) = t.map fun p => (Value.int .i64 (p.1 : Int), Value.int .i64 (p.2 : Int))) :
    (∀ e ∈ es.toList, ∃ k, keyOf Tryz.prog 3 e.key = some k) ∧ ∀ e ∈ es.toList, ∃ p ∈ t, e.key = .int .i64 (p.1 : Int) ∧ e.val = .int .i64 (p.2 : Int) := by
  have h2 : ∀ e ∈ es.toList, ∃ p ∈ t, e.key = .int .i64 (p.1 : Int) ∧ e.val = .int .i64 (p.2 : Int) := fun e h => by
    have : (e.key, e.val) ∈ t.map fun p => (Value.int .i64 (p.1 : Int), Value.int .i64 (p.2 : Int)) := by
      rw [← he]
      exact List.mem_map.2 ⟨e, h, rfl⟩
    obtain ⟨p, hp, e1⟩ := List.mem_map.1 this
    injection e1 with a b
    exact ⟨p, hp, a.symm, b.symm⟩
  refine ⟨fun e h => ?_, h2⟩
  obtain ⟨p, hp, e1, _⟩ := h2 e h
  rw [e1]
  exact ⟨_, key_int (by omega) (by have := hl p hp; omega)⟩
/-- An id that isn't there. -/
theorem int_look_none {w : World} {mb : Nat} {t : List (Nat × Nat)} (hm : IntMap w mb t) (hl : ∀ p ∈ t, p.1 ≤ 1048576) (id : Int) (h1 : -9223372036854775808 ≤ id) (h2 : id ≤ 9223372036854775807) (hn : ∀ p ∈ t, (p.1 : Int) ≠ id) :
    (Instr.lookup 109 (.map (some mb)) (.int .i64 id) true).run Tryz.prog w = .ok (.tuple #[.int .i64 0, .bool false]) w := by
  obtain ⟨es, clock, hb, he⟩ := hm
  obtain ⟨k1, k2⟩ := intmap_keys hl he
  rcases keyed3.find w (key_int h1 h2) es.toList k1 with ⟨f1, f2⟩ | ⟨j, e0, f1, f2, f3⟩
  · simp [Instr.lookup, run_underlying map50, MapKept.run_getObj_map hb, keyed3.check w _ (key_int h1 h2), f1, Result.andThen, Tryz.zeroValue3]
  · obtain ⟨p, hp, e1, e2⟩ := k2 e0 (List.mem_of_getElem? f2)
    rw [f3] at e1
    injection e1 with _ e1
    exact absurd e1.symm (hn p hp)
theorem int_look_nil (w : World) (id : Int) (h1 : -9223372036854775808 ≤ id) (h2 : id ≤ 9223372036854775807) : (Instr.lookup 109 (.map none) (.int .i64 id) true).run Tryz.prog w = .ok (.tuple #[.int .i64 0, .bool false]) w := by
  rcases keyed3.find w (key_int h1 h2) [] (by simp) with ⟨f1, _⟩ | ⟨j, e0, _, f2, _⟩
  · simp [Instr.lookup, run_underlying map50, keyed3.check w _ (key_int h1 h2), f1, Result.andThen, Tryz.zeroValue3]
  · simp at f2
theorem int_insert {w : World} {mb : Nat} {t : List (Nat × Nat)} (hm : IntMap w mb t) (hl : ∀ p ∈ t, p.1 ≤ 1048576) (id v : Nat) (h2 : id ≤ 1048576) (hn : ∀ p ∈ t, p.1 ≠ id) :
    ∃ w', (Instr.mapUpdate 109 (.map (some mb)) (.int .i64 (id : Int)) (.int .i64 (v : Int))).run Tryz.prog w = .ok () w' ∧ IntMap w' mb (t ++ [(id, v)]) ∧ w.grownBy w' (some mb) ∧ w'.heap.size = w.heap.size := by
  obtain ⟨es, clock, hb, he⟩ := hm
  obtain ⟨k1, k2⟩ := intmap_keys hl he
  have hk := key_int (a := (id : Int)) (by omega) (by omega)
  rcases keyed3.find w hk es.toList k1 with ⟨f1, f2⟩ | ⟨j, e0, f1, f2, f3⟩
  · refine ⟨setBlock w mb (.map (es.push ⟨.int .i64 (id : Int), .int .i64 (v : Int), clock⟩) (clock + 1)), ?_, ⟨_, _, heap_setBlock_same hb _, ?_⟩, ⟨rfl, rfl, rfl, by simp [setBlock], fun k _ hk => heap_setBlock_other hb _ (fun e => hk (by rw [e]))⟩, by simp [setBlock]⟩
    · simp [Instr.mapUpdate, run_underlying map50, MapKept.run_getObj_map hb, keyed3.check w false hk, f1, MapKept.run_setObj_map _ hb, Result.andThen, setBlock]
    · simp [he]
  · obtain ⟨p, hp, e1, e2⟩ := k2 e0 (List.mem_of_getElem? f2)
    rw [f3] at e1
    injection e1 with _ e1
    exact absurd (by omega) (hn p hp)
theorem make50 (W : World) : (Instr.makeMap 109 none).run Tryz.prog W = .ok (.map (some W.heap.size)) (W.alloc (.map #[] 0)) := by
  simp [Instr.makeMap, Result.andThen, go_sem]
/-- The map's value, and what it holds. -/
def TM (base : Nat) (w : World) (m : Value) (t : List (Nat × Nat)) : Prop := (m = .map none ∧ t = []) ∨ ∃ mb, m = .map (some mb) ∧ base ≤ mb ∧ IntMap w mb t
/-- What the map holds is what the lists hold. -/
structure TOk (t : List (Nat × Nat)) (l : List ItemN) : Prop where
  perm : (t.map fun p => (p.2, p.1)).Perm l
  keys : t.Pairwise fun p q => p.1 ≠ q.1
  small : ∀ p ∈ t, p.1 ≤ 1048576
/-- A wheel as a whole: its time, the pairs that it holds, the blocks that are its own. -/
structure WT (base : Nat) (w : World) (b now : Nat) (l : List ItemN) (O : Nat → Prop) : Prop where
  ex : ∃ m V F L t, WhlS base w b now m V F L l ∧ TM base w m t ∧ TOk t l ∧ (∀ k, OwnL b V k → O k) ∧ (∀ mb, m = .map (some mb) → O mb)
  bru : Bru w
  low : ∀ k, O k → base ≤ k
  pos : 0 < base
  top : now ≤ 1099511627776
theorem OwnL.cells {base : Nat} {w : World} {b now : Nat} {m : Value} {V : Nat → Value} {F : Nat → Nat} {L : Nat → List ItemN} (h : Wh base w b now m V F L) {k : Nat} (hk : OwnL b V k) : ∃ cs t fr, w.heap[k]? = some (.cells cs t fr) := by
  rcases hk with rfl | ⟨c, hc, e⟩
  · have := h.now
    unfold World.cell? at this
    cases hq : w.heap[k]? with
    | none => simp [hq] at this
    | some o =>
      cases o with
      | cells cs t fr => exact ⟨cs, t, fr, rfl⟩
      | _ => simp [hq] at this
  · rcases (h.row c hc).2 with ⟨e1, _⟩ | ⟨g, cap, cur, e1, _, e3, _⟩
    · rw [e1] at e; simp [Value.ownBlock] at e
    · rw [e1] at e
      simp [Value.ownBlock] at e
      subst e
      exact ⟨_, _, _, e3⟩
theorem TM.kp {base : Nat} {w w' : World} {m : Value} {t : List (Nat × Nat)} {O : Nat → Prop} (h : TM base w m t) (k : Kp O w w') (ho : ∀ mb, m = .map (some mb) → ¬ O mb) : TM base w' m t := by
  rcases h with h | ⟨mb, e, hb, hm⟩
  · exact .inl h
  · exact .inr ⟨mb, e, hb, hm.kept (k.block mb hm.lt (ho mb e))⟩
theorem TM.apart {base : Nat} {w : World} {b now : Nat} {m : Value} {V : Nat → Value} {F : Nat → Nat} {L : Nat → List ItemN} {t : List (Nat × Nat)} (h : Wh base w b now m V F L) (ht : TM base w m t) : ∀ mb, m = .map (some mb) → ¬ OwnL b V mb := fun mb e hO => by
  obtain ⟨cs, ty, fr, hc⟩ := OwnL.cells h hO
  rcases ht with ⟨e1, _⟩ | ⟨mb2, e1, _, es, clock, h1, _⟩
  · rw [e] at e1; cases e1
  · rw [e] at e1
    injection e1 with e1
    injection e1 with e1
    subst e1
    rw [h1] at hc
    cases hc
/-- A wheel in a world in which none of its blocks turned. -/
theorem WT.kept {base : Nat} {w w' : World} {b now : Nat} {l : List ItemN} {O O2 : Nat → Prop} (h : WT base w b now l O) (k : Kp O2 w w') (ho : ∀ x, O2 x → ¬ O x ∧ 0 < x) : WT base w' b now l O := by
  obtain ⟨m, V, F, L, t, hw, ht, hk, o1, o2⟩ := h.ex
  refine ⟨⟨m, V, F, L, t, ⟨hw.wh.kept k.size (fun x hx => k.block x (hw.wh.own_low hx).2 (fun e => (ho x e).1 (o1 x hx))), hw.bits, hw.ok, hw.max, hw.len⟩, ht.kp k (fun mb e hO => (ho mb hO).1 (o2 mb e)), hk, o1, o2⟩, h.bru.kp k (fun x hx => (ho x hx).2), h.low, h.pos, h.top⟩
theorem WT.below {base : Nat} {w w' : World} {b now : Nat} {l : List ItemN} {O : Nat → Prop} (h : WT base w b now l O) (k : Below w.heap.size w w') : WT base w' b now l O :=
  h.kept (O2 := fun _ => False) (Kp.ofBelow k) (fun x hx => hx.elim)
/-- A wheel behind a call. -/
structure After (base : Nat) (w : World) (O : Nat → Prop) (w' : World) (b now : Nat) (l : List ItemN) (O' : Nat → Prop) : Prop where
  wt : WT base w' b now l O'
  kp : Kp O w w'
  own : ∀ k, O' k → O k ∨ w.heap.size ≤ k
end Go.Proofs.YtoihekgmomjhpaaGreatDoor.W

/-
  Layer 6: a new wheel.
-/
set_option linter.unusedVariables false
namespace Go.Proofs.YtoihekgmomjhpaaGreatDoor.W
open Go.RowKit Whl
def isNil : Option Value → Bool
  | some (.slice none 0 0) => true
  | _ => false
def isU0 : Option Value → Bool
  | some (.int .u64 0) => true
  | _ => false
def isM0 : Option Value → Bool
  | some (.map none) => true
  | _ => false
theorem isNil_eq {v : Option Value} (h : isNil v = true) : v = some (.slice none 0 0) := by
  unfold isNil at h
  split at h
  · rfl
  · cases h
theorem isU0_eq {v : Option Value} (h : isU0 v = true) : v = some (.int .u64 0) := by
  unfold isU0 at h
  split at h
  · rfl
  · cases h
theorem isM0_eq {v : Option Value} (h : isM0 v = true) : v = some (.map none) := by
  unfold isM0 at h
  split at h
  · rfl
  · cases h
/-- What a new wheel's cells hold, as it is reckoned off the program's own table of types. -/
def zchk : Option TypeInfo → Bool
  | some i => match i.zero with
    | some (.agg cs) => cs.size == 394 && (isM0 cs[1]? && (isNil cs[2]? && (isNil cs[393]? && ((List.range 6).all (fun i => isU0 cs[3 + i * 65]?) && (List.range 6).all (fun i => (List.range 64).all fun s => isNil cs[4 + 65 * i + s]?)))))
    | _ => false
  | none => false
theorem zchk63 : zchk (Tryz.prog.info? 116) = true := by kernel_rfl
theorem zero63 : ∃ Z : Array Value, (∀ W, (zeroValue 116).run Tryz.prog W = .ok (.agg Z) W) ∧ Z.size = 394 ∧ (∀ c, IsL c → Z[c]? = some (.slice none 0 0)) ∧ (∀ i, i < 6 → Z[3 + i * 65]? = some (.int .u64 0)) ∧ Z[1]? = some (.map none) := by
  have h := zchk63
  unfold zchk at h
  cases hi : Tryz.prog.info? 116 with
  | none => rw [hi] at h; cases h
  | some i =>
    rw [hi] at h
    simp only at h
    split at h
    · next cs hz =>
      simp only [Bool.and_eq_true, beq_iff_eq, List.all_eq_true, List.mem_range] at h
      obtain ⟨h1, h2, h3, h4, h5, h6⟩ := h
      refine ⟨cs, fun W => ?_, h1, fun c hc => ?_, fun i hi => isU0_eq (h5 i hi), isM0_eq h2⟩
      · simp [zeroValue, typeInfo, hi, hz]
      · rcases hc with e | e | ⟨i, s, e1, e2, e3⟩
        · subst e; exact isNil_eq h3
        · subst e; exact isNil_eq h4
        · subst e3; exact isNil_eq (h6 i e1 s e2)
    · cases h
/-- A wheel of nobody. -/
theorem WT.new (w : World) (base : Nat) (n0 : Nat) (hn : n0 ≤ 1099511627776) (hb : base ≤ w.heap.size) (hpos : 0 < base) (tb : Bru w) (Z : Array Value) (hs : Z.size = 394) (hL : ∀ c, IsL c → Z[c]? = some (.slice none 0 0)) (hF : ∀ i, i < 6 → Z[3 + i * 65]? = some (.int .u64 0)) (hM : Z[1]? = some (.map none)) :
    WT base (w.alloc (.cells (Z.setIfInBounds 0 (.int .i64 (n0 : Int))) 116)) w.heap.size n0 [] (fun k => k = w.heap.size) := by
  have e := Go.heap_alloc_new w (.cells (Z.setIfInBounds 0 (.int .i64 (n0 : Int))) 116)
  have hc : ∀ d, (w.alloc (.cells (Z.setIfInBounds 0 (.int .i64 (n0 : Int))) 116)).cell? ⟨w.heap.size, d, none⟩ = (Z.setIfInBounds 0 (.int .i64 (n0 : Int)))[d]? := fun d => cell_of_row _ _ d _ _ _ e
  have hcz : ∀ d, 0 < d → (Z.setIfInBounds 0 (.int .i64 (n0 : Int)))[d]? = Z[d]? := fun d hd => by
    rw [Array.getElem?_setIfInBounds_ne (by omega)]
  refine ⟨⟨.map none, fun _ => .slice none 0 0, fun _ => 0, fun _ => [], [], ⟨⟨hb, by simp, fun d => frozen_of_row _ _ d _ _ e, ?_, ?_, fun c hcl => ?_, fun i hi => ?_, fun c _ => Rw.nil _ _, fun c d _ _ _ k hk => by simp [Value.ownBlock] at hk, fun c _ => by simp [Value.ownBlock]⟩, fun i hi => ⟨by omega, fun s hs => by simp⟩, ⟨List.Pairwise.nil, rfl, fun c _ => List.Perm.refl _⟩, fun p hp => by simp at hp, by simp⟩, .inl ⟨rfl, rfl⟩, ⟨List.Perm.refl _, List.Pairwise.nil, fun p hp => by simp at hp⟩, fun k hk => ?_, fun mb hmb => by cases hmb⟩, ?_, fun k hk => by omega, hpos, hn⟩
  · rw [hc, Array.getElem?_setIfInBounds_self_of_lt (by omega)]
  · rw [hc, hcz 1 (by omega)]; exact hM
  · rw [hc, hcz c (by have := isL_big hcl; omega)]; exact hL c hcl
  · rw [hc, hcz _ (by omega)]; exact hF i hi
  · rcases hk with e | ⟨c, _, e⟩
    · exact e
    · simp [Value.ownBlock] at e
  · intro j hj
    have h := tb j hj
    exact (World.cell?_of_block (w := w) (a := ⟨0, j, none⟩) (Go.heap_alloc_old w _ (World.block_lt_of_cell? w _ h))).trans h
set_option maxHeartbeats 4000000 in
set_option maxRecDepth 1000000 in
theorem new_any (base : Nat) (w : World) (n : Int) (n0 : Nat) (hn : min (max n 0) 1099511627776 = (n0 : Int)) (hb : base ≤ w.heap.size) (hpos : 0 < base) (tb : Bru w) :
    Calls Tryz.prog 28 #[.int .i64 n] w fun e w' => e = .returned (.pointer (some ⟨w.heap.size, 0, none⟩)) ∧ WT base w' w.heap.size n0 [] (fun k => k = w.heap.size) ∧ Below w.heap.size w w' := by
  obtain ⟨Z, hZ, hs, hL, hF, hM⟩ := zero63
  have hw := Lib.hid (WT.new w base n0 (by omega) hb hpos tb Z hs hL hF hM)
  have hne : ¬ Z = #[] := fun e => by rw [e] at hs; simp at hs
  have hs2 : (Z.setIfInBounds 0 (.int .i64 (n0 : Int))).size = 394 := by simp [hs]
  clear hL hF hM tb hb hs
  go_enter Tryz.func28, Tryz.ntmps28
  go_wp2_with (simp only [hn])
  go_ret
  exact ⟨rfl, hw.out, (Below.refl _ _).alloc (Nat.le_refl _) _⟩
end Go.Proofs.YtoihekgmomjhpaaGreatDoor.W

/-
  Layer 6: Set of one that isn't there, and of what isn't right.
-/
set_option linter.unusedVariables false
namespace Go.Proofs.YtoihekgmomjhpaaGreatDoor.W
open Go.RowKit Whl
theorem Wh.setTimes {base : Nat} {w : World} {b now : Nat} {m : Value} {V : Nat → Value} {F : Nat → Nat} {L : Nat → List ItemN} (h : Wh base w b now m V F L) (m2 : Value) : Step base w b V (w.setCell ⟨b, 1, none⟩ m2) now m2 V F L := by
  have ho : ∀ k, k ≠ b → (w.setCell ⟨b, 1, none⟩ m2).heap[k]? = w.heap[k]? := fun k hk => heap_setCell_other _ _ _ _ hk
  have hc : ∀ d, d ≠ 1 → (w.setCell ⟨b, 1, none⟩ m2).cell? ⟨b, d, none⟩ = w.cell? ⟨b, d, none⟩ := fun d hd => World.cell?_setCell_other _ _ _ _ (by intro e; injection e with _ e2; exact hd e2.symm)
  refine ⟨⟨h.low, by simp [World.setCell]; exact h.lt, fun d => by rw [World.frozen?_setCell]; exact h.free d, (hc 0 (by omega)).trans h.now, World.cell?_setCell_same _ _ _ h.times, fun c hc2 => (hc c (by have := isL_big hc2; omega)).trans (h.slot c hc2), fun i hi => (hc _ (by omega)).trans (h.full i hi), fun c hc2 => ?_, h.apart, h.nb⟩, ⟨rfl, rfl, rfl, by simp [World.setCell], fun k _ hk => ho k (fun e => hk (.inl e))⟩, fun k hk => .inl hk⟩
  exact World.ownsRow.kept (h.row c hc2) (row := some b) ⟨rfl, rfl, rfl, by simp [World.setCell], fun k _ hk => ho k (fun e => hk (by rw [e]))⟩ (.inr (h.nb c hc2))
/-- The blocks of a wheel. -/
def OwnW (b : Nat) (V : Nat → Value) (m : Value) (k : Nat) : Prop := OwnL b V k ∨ m = .map (some k)
theorem TOk.len {t : List (Nat × Nat)} {l : List ItemN} (h : TOk t l) : t.length = l.length := by
  have := h.perm.length_eq
  simpa using this
theorem TOk.not {t : List (Nat × Nat)} {l : List ItemN} (h : TOk t l) {id : Nat} (hn : ∀ p, p ∈ l → p.2 ≠ id) : ∀ p ∈ t, p.1 ≠ id := fun p hp e => by
  have : (p.2, p.1) ∈ l := h.perm.mem_iff.1 (List.mem_map.2 ⟨p, hp, rfl⟩)
  exact hn _ this e
theorem TOk.add {t : List (Nat × Nat)} {l : List ItemN} (h : TOk t l) {id a : Nat} (hn : ∀ p, p ∈ l → p.2 ≠ id) (hid : id ≤ 1048576) : TOk (t ++ [(id, a)]) (ins (a, id) l) := by
  refine ⟨?_, ?_, fun p hp => ?_⟩
  · rw [List.map_append]
    refine (List.perm_append_comm.trans ?_).trans (ins_perm (a, id) l).symm
    exact h.perm.cons (a, id)
  · exact List.pairwise_append.2 ⟨h.keys, List.pairwise_singleton _ _, fun p hp q hq => by
      simp only [List.mem_singleton] at hq
      subst hq
      exact h.not hn p hp⟩
  · rcases List.mem_append.1 hp with e | e
    · exact h.small p e
    · simp only [List.mem_singleton] at e
      subst e
      exact hid
/-- What is to be shown behind the map was written: the rest of Set. -/
theorem set_rest (base : Nat) (w w2 : World) (b now : Nat) (l : List ItemN) (O : Nat → Prop) (id a : Nat) (m m2 : Value) (V : Nat → Value) (F : Nat → Nat) (L : Nat → List ItemN) (t : List (Nat × Nat)) (h : WT base w b now l O) (hS : WhlS base w b now m V F L l) (tok : TOk t l) (o1 : ∀ k, OwnL b V k → O k) (o2 : ∀ mb, m = .map (some mb) → O mb)
    (hn : ∀ p, p ∈ l → p.2 ≠ id) (hid : id ≤ 1048576) (ha : a ≤ 1099511627776) (hl : l.length < 1000)
    (hw2 : Wh base w2 b now m2 V F L) (hm2 : TM base w2 m2 (t ++ [(id, a)])) (kp2 : Kp O w w2) (hm3 : ∀ mb, m2 = .map (some mb) → m = .map (some mb) ∨ w.heap.size ≤ mb) :
    Calls Tryz.prog 70 #[.pointer (some ⟨b, 0, none⟩), pairV (a, id)] w2 fun e w' => e = .returned (.tuple #[]) ∧ ∃ V', After base w O w' b now (ins (a, id) l) (OwnW b V' m2) := by
  have hx : (a, id) ∉ l := fun e => hn _ e rfl
  refine (putIn_any base w2 b now m2 V F L (a, id) hw2 hS.bits ha hS.ok.up2 (fun c hc => Nat.le_trans (hS.ok.len c) (by have := hS.len; omega))).mono ?_
  rintro e w' ⟨he, V', F', st, bt⟩
  have hap := TM.apart hw2 hm2
  have own : ∀ k, OwnW b V' m2 k → O k ∨ w.heap.size ≤ k := fun k hk => by
    rcases hk with e | e
    · rcases st.own k e with g | g
      · exact .inl (o1 k g)
      · have := kp2.size; exact .inr (by omega)
    · rcases hm3 k e with g | g
      · exact .inl (o2 k g)
      · exact .inr g
  have kp3 : Kp O w w' := kp2.trans st.kp (fun i hi => .inl (o1 i hi))
  have hlow : ∀ k, OwnW b V' m2 k → base ≤ k := fun k hk => by
    rcases own k hk with g | g
    · exact h.low k g
    · have := hS.wh.low; have := hS.wh.lt; omega
  refine ⟨he, V', ⟨⟨m2, V', F', _, _, ⟨st.wh, bt, hS.ok.putIn hx, fun p hp => ?_, by rw [ins_len]; omega⟩, hm2.kp st.kp hap, tok.add hn hid, fun k hk => .inl hk, fun mb e => .inr e⟩, h.bru.kp kp3 (fun x hx => Nat.lt_of_lt_of_le h.pos (h.low x hx)), hlow, h.pos, h.top⟩, kp3, own⟩
  rcases mem_ins.1 hp with e | e
  · rw [e]; exact ha
  · exact hS.max p e
set_option maxHeartbeats 4000000 in
set_option maxRecDepth 100000 in
theorem set_new (base : Nat) (w : World) (b now : Nat) (l : List ItemN) (O : Nat → Prop) (id a : Nat) (h : WT base w b now l O) (hn : ∀ p, p ∈ l → p.2 ≠ id) (hid : id ≤ 1048576) (ha : a ≤ 1099511627776) (hl : l.length < 1000) :
    Calls Tryz.prog 52 #[.pointer (some ⟨b, 0, none⟩), .int .i64 id, .int .i64 a] w fun e w' => e = .returned (.int .i64 0) ∧ ∃ O', After base w O w' b now (ins (a, id) l) O' := by
  obtain ⟨m, V, F, L, t, hS, tm, tok, o1, o2⟩ := h.ex
  have hid2 : (id : Int) ≤ 1048576 := by omega
  have ha2 : (a : Int) ≤ 1099511627776 := by omega
  have c1 := hS.wh.times
  have g1 := hS.wh.free 1
  have hl2 : (t.length : Int) < 1000 := by rw [tok.len]; omega
  have hq : ∀ (W : World) (r : Option Nat), (binOp .eql 109 (.map r) (.map none)).run Tryz.prog W = .ok (.bool r.isNone) W := fun W r => run_eql_map_nil W 109 3 3 r map50
  have hbld : ∀ W, (Instr.build 100 #[(0, .int .i64 (a : Int)), (1, .int .i64 (id : Int))]).run Tryz.prog W = .ok (.agg #[.int .i64 (a : Int), .int .i64 (id : Int)]) W := fun W => by kernel_rfl
  rcases tm with ⟨rfl, rfl⟩ | ⟨mb, rfl, hmb, im⟩
  · -- the first one
    have k1 := (Below.refl w.heap.size w).alloc (Nat.le_refl _) (.map #[] 0)
    have hw1 := hS.wh.below k1
    have s1 := hw1.setTimes (.map (some w.heap.size))
    have im1 : IntMap ((w.alloc (.map #[] 0)).setCell ⟨b, 1, none⟩ (.map (some w.heap.size))) w.heap.size [] := (IntMap.made w).kept (heap_setCell_other _ _ _ _ (by have := hS.wh.lt; show w.heap.size ≠ b; omega))
    obtain ⟨w2, hrun, im2, gr2, sz2⟩ := int_insert im1 (fun p hp => by simp at hp) id a hid (fun p hp => by simp at hp)
    have hnb : ¬ OwnL b V w.heap.size := fun e => by have := (hS.wh.own_low e).2; omega
    have hw2 : Wh base w2 b now (.map (some w.heap.size)) V F L := s1.wh.kept (by omega) (fun x hx => gr2.block x (s1.wh.own_low hx).2 (fun e => by injection e with e; subst e; exact hnb hx))
    have kp2 : Kp O w w2 := by
      refine ⟨gr2.os.trans (s1.kp.os.trans k1.os), gr2.tape.trans (s1.kp.tape.trans k1.tape), gr2.output.trans (s1.kp.output.trans k1.output), by have := s1.kp.size; have := k1.size; omega, fun k hk hO => ?_⟩
      rw [gr2.block k (by have := s1.kp.size; have := k1.size; omega) (fun e => by injection e with e; omega), s1.kp.block k (by have := k1.size; omega) (fun e => hO (o1 k e))]
      exact k1.block k hk
    have cr := Lib.hid (set_rest base w w2 b now l O id a (.map none) (.map (some w.heap.size)) V F L [] h hS tok o1 o2 hn hid ha hl hw2 (.inr ⟨_, rfl, Nat.le_trans hS.wh.low (Nat.le_of_lt hS.wh.lt), im2⟩) kp2 (fun mb e => by injection e with e; injection e with e; exact .inr (by omega)))
    have hlk := int_look_nil w (id : Int) (by omega) (by omega)
    have c2 := s1.wh.times
    have c1' := hw1.times
    have g1' := hw1.free 1
    have hmk := make50
    unfold pairV at cr
    clear h hS tok o1 o2 hn hid ha hl k1 hw1 s1 im1 im2 gr2 sz2 hnb hw2 kp2
    go_enter Tryz.func52, Tryz.ntmps52
    go_wp2_with fail
    refine cr.out.mono ?_
    rintro e w8 ⟨rfl, V8, A8⟩
    go_wp2_with fail
    go_ret
    exact ⟨rfl, _, A8⟩
  · obtain ⟨w2, hrun, im2, gr2, sz2⟩ := int_insert im tok.small id a hid (tok.not hn)
    have hap := TM.apart hS.wh (.inr ⟨mb, rfl, hmb, im⟩ : TM base w (.map (some mb)) t) mb rfl
    have hw2 : Wh base w2 b now (.map (some mb)) V F L := hS.wh.kept (by omega) (fun x hx => gr2.block x (hS.wh.own_low hx).2 (fun e => by injection e with e; subst e; exact hap hx))
    have kp2 : Kp O w w2 := ⟨gr2.os, gr2.tape, gr2.output, by omega, fun k hk hO => gr2.block k hk (fun e => by injection e with e; subst e; exact hO (o2 _ rfl))⟩
    have cr := Lib.hid (set_rest base w w2 b now l O id a (.map (some mb)) (.map (some mb)) V F L t h hS tok o1 o2 hn hid ha hl hw2 (.inr ⟨_, rfl, hmb, im2⟩) kp2 (fun mb e => .inl e))
    have hlk := int_look_none im tok.small (id : Int) (by omega) (by omega) (fun p hp e => tok.not hn p hp (by omega))
    have hln := im.len 3
    unfold pairV at cr
    clear h hS tok o1 o2 hn hid ha hl im2 gr2 sz2 hap hw2 kp2 im
    generalize t.length = n at *
    go_enter Tryz.func52, Tryz.ntmps52
    go_wp2_with fail
    refine cr.out.mono ?_
    rintro e w8 ⟨rfl, V8, A8⟩
    go_wp2_with fail
    go_ret
    exact ⟨rfl, _, A8⟩
theorem flat_of_row {base : Nat} {w : World} {l : List ItemN} {g cap : Nat} (h : Rw base w (.slice (some ⟨g, 0, none⟩) l.length cap) l) (k : Nat) (hk : k ≤ l.length) : ∀ j u, (flat (l.drop k))[j]? = some u → w.cell? ((⟨g, k * 2, none⟩ : Addr).add j) = some u := fun j u hu => by
  obtain ⟨cur, h1, h2, h3, h4, h5, h6⟩ := h.row
  rw [Addr.add_lit, cell_of_row w g _ cur 100 (0, 0) h2]
  rw [flat_drop l k hk, List.getElem?_drop, ← h6, List.getElem?_take] at hu
  split at hu
  · simpa using hu
  · cases hu
theorem flat_of_head {base : Nat} {w : World} {l : List ItemN} {g cap : Nat} (h : Rw base w (.slice (some ⟨g, 0, none⟩) l.length cap) l) (k : Nat) (hk : k ≤ l.length) : ∀ j u, (flat (l.take k))[j]? = some u → w.cell? ((⟨g, 0, none⟩ : Addr).add j) = some u := fun j u hu => by
  obtain ⟨cur, h1, h2, h3, h4, h5, h6⟩ := h.row
  rw [Addr.add_lit, cell_of_row w g _ cur 100 (0, 0) h2]
  rw [flat_take l k hk, List.getElem?_take, ← h6, List.getElem?_take] at hu
  split at hu
  · split at hu
    · simpa using hu
    · cases hu
  · cases hu
/-- Behind goOn. -/
theorem goOn_any (base : Nat) (w : World) (b now : Nat) (m : Value) (V : Nat → Value) (F : Nat → Nat) (L : Nat → List ItemN) (l : List ItemN) (h : WhlS base w b now m V F L l) (tb : Bru w) (hbase : 0 < base) (t : Int) (ht2 : t ≤ 1099511627776) :
    Calls Tryz.prog 64 #[.pointer (some ⟨b, 0, none⟩), .int .i64 t] w fun e w' => e = .returned (.tuple #[]) ∧ ∃ V' F' L', Step base w b V w' (max now t.toNat) m V' F' L' ∧ Bits F' L' ∧ Ok (max now t.toNat) l L' := by
  by_cases ht : t ≤ (now : Int)
  · refine (goOn_back base w b now m V F L h.wh t ht).mono ?_
    rintro e w' ⟨he, rfl⟩
    rw [show max now t.toNat = now by omega]
    exact ⟨he, V, F, L, ⟨h.wh, Kp.refl _ _, fun k hk => .inl hk⟩, h.bits, h.ok⟩
  · obtain ⟨tt, rfl⟩ : ∃ tt : Nat, t = (tt : Int) := ⟨t.toNat, by omega⟩
    rw [show max now (tt : Int).toNat = tt by omega]
    exact goOn_on base w b now m V F L l h tb hbase tt (by omega) ht2
end Go.Proofs.YtoihekgmomjhpaaGreatDoor.W
