/-
  Layer 6: the wheel's putInAll, comeRound and goOn: time goes on.
-/
import Derived.Test.YthobffeafddonaaDoorWPut
set_option linter.unusedVariables false
namespace Whl
theorem putAllL_snoc (now : Nat) (x : ItemN) : ∀ (r : List ItemN) (L : Nat → List ItemN), putAllL now (r ++ [x]) L = putInL now x (putAllL now r L)
  | [], L => rfl
  | y :: r, L => putAllL_snoc now x r (putInL now y L)
theorem insAll_len : ∀ (r l : List ItemN), (insAll r l).length = l.length + r.length
  | [], l => rfl
  | x :: r, l => by
    show (insAll r (ins x l)).length = _
    rw [insAll_len, ins_len, List.length_cons]; omega
theorem Ok.len {now : Nat} {l : List ItemN} {L : Nat → List ItemN} (h : Ok now l L) (c : Nat) : (L c).length ≤ l.length := by
  by_cases hc : c = 2
  · subst hc; rw [h.due]; exact List.length_filter_le _ _
  · rw [(h.perm c hc).length_eq]; exact List.length_filter_le _ _
theorem Ok.up2 {now : Nat} {l : List ItemN} {L : Nat → List ItemN} (h : Ok now l L) : Up (L 2) := by rw [h.due]; exact h.up.filter _
end Whl
namespace Go.Proofs.YthobffeafddonaaDoor
open Go.RowKit Whl

theorem Rw.kp {base : Nat} {w w' : World} {v : Value} {l : List ItemN} {O : Nat → Prop} (h : Rw base w v l) (k : Kp O w w') (ho : ∀ x, v.ownBlock = some x → ¬ O x) : Rw base w' v l := by
  obtain ⟨r1, r2⟩ := h
  refine ⟨r1, ?_⟩
  rcases r2 with r2 | ⟨g, cap, cur, e1, e2, e3, e4⟩
  · exact .inl r2
  · exact .inr ⟨g, cap, cur, e1, e2, (k.block g (Array.getElem?_eq_some_iff.1 e3).1 (ho g (by rw [e1]; rfl))).trans e3, e4⟩

/-- What is said behind some of a list were put in. -/
structure Putting (base : Nat) (w0 wr : World) (b now : Nat) (m : Value) (V0 : Nat → Value) (L0 : Nat → List ItemN) (l0 r : List ItemN) (v : Value) (k : Nat) : Prop where
  st : ∃ V F, Step base w0 b V0 wr now m V F (putAllL now (r.take k) L0) ∧ Bits F (putAllL now (r.take k) L0) ∧ (∀ x, v.ownBlock = some x → ¬ OwnL b V x)
  row : Rw base wr v r

set_option maxHeartbeats 2000000 in
set_option maxRecDepth 100000 in
theorem putInAll_any (base : Nat) (w : World) (b now : Nat) (m : Value) (V : Nat → Value) (F : Nat → Nat) (L : Nat → List ItemN) (l r : List ItemN) (v : Value) (h : Wh base w b now m V F L) (hbt : Bits F L) (ok : Ok now l L)
    (hr : Rw base w v r) (hv : ∀ x, v.ownBlock = some x → ¬ OwnL b V x) (hnd : r.Nodup) (hdj : ∀ p, p ∈ r → p ∉ l) (hmax : ∀ p, p ∈ r → p.1 ≤ 1099511627776) (hlen : l.length + r.length ≤ 100000) :
    Calls Tryd.prog 39 #[.pointer (some ⟨b, 0, none⟩), v] w fun e w' => e = .returned (.tuple #[]) ∧ ∃ V' F', Step base w b V w' now m V' F' (putAllL now r L) ∧ Bits F' (putAllL now r L) := by
  obtain ⟨a, cap, rfl, _, _, ha⟩ := hr.look
  have hn : (r.length : Int) ≤ 100000 := by omega
  have hok : Hid (∀ k, Ok now (insAll (r.take k) l) (putAllL now (r.take k) L)) := fun k => Ok.putAll ok (hnd.sublist (List.take_sublist k r)) fun p hp => hdj p (List.mem_of_mem_take hp)
  have hll : Hid (∀ k, (insAll (r.take k) l).length ≤ 1000000) := fun k => by
    rw [insAll_len, List.length_take]; omega
  have hsn : Hid (∀ k (hk : k < r.length), putAllL now (r.take (k + 1)) L = putInL now r[k] (putAllL now (r.take k) L)) := fun k hk => by
    rw [List.take_succ_eq_append_getElem hk, putAllL_snoc]
  have hmx : Hid (∀ k (hk : k < r.length), r[k].1 ≤ 1099511627776) := fun k hk => hmax _ (List.getElem_mem _)
  have P0 : Hid (Putting base w w b now m V L l r (.slice a r.length cap) 0) := ⟨⟨V, F, ⟨h, Kp.refl _ _, fun k hk => .inl hk⟩, hbt, hv⟩, hr⟩
  have hfin : Hid (putAllL now (r.take r.length) L = putAllL now r L) := by unfold Hid; rw [List.take_length]
  replace ha := Lib.hid ha
  have hvlt : Hid (∀ x, (Value.slice a r.length cap).ownBlock = some x → x < w.heap.size) := fun x hx => (World.ownsRow.lt hr x hx).2
  clear h hbt ok hr hv hnd hdj hmax hlen
  go_enter Tryd.func39, Tryd.ntmps39
  go_wp2_with fail
  go_loopw [8] (fun v8 wr => ∃ k : Nat, v8 = .int .i64 k ∧ (k : Int) ≤ r.length ∧ Hid (Putting base w wr b now m V L l r (.slice a r.length cap) k)) (fun v8 _ => ((r.length : Int) - intOf v8).toNat)
  case atStart => exact ⟨0, rfl, by omega, P0⟩
  case round =>
    obtain ⟨k, rfl, hk, P⟩ := hrel
    clear P0
    by_cases hlt : (k : Int) < r.length
    · obtain ⟨g, rfl⟩ := ha.out k (by omega)
      obtain ⟨c0, c1⟩ := P.out.row.cells k (by omega)
      have hs1 := Lib.hid (hsn.out k (by omega))
      have hm1 := Lib.hid (hmx.out k (by omega))
      generalize hq : r[k] = q at *
      clear hq
      obtain ⟨⟨V1, F1, st, bt, hv1⟩, R1⟩ := P.out
      have kk := (Below.refl wr.heap.size wr).alloc (Nat.le_refl _) (.cells #[.int .i64 (q.1 : Int), .int .i64 (q.2 : Int)] 52)
      have cp := Lib.hid (putIn_any base _ b now m V1 F1 _ q (st.wh.below kk) bt hm1.out (hok.out k).up2 (fun c hc => Nat.le_trans ((hok.out k).len c) (hll.out k)))
      have hR : Hid (∀ w8 V2 F2, Step base (wr.alloc (.cells #[.int .i64 (q.1 : Int), .int .i64 (q.2 : Int)] 52)) b V1 w8 now m V2 F2 (putInL now q (putAllL now (r.take k) L)) → Bits F2 (putInL now q (putAllL now (r.take k) L)) → Putting base w w8 b now m V L l r (.slice (some ⟨g, 0, none⟩) r.length cap) (k + 1)) := fun w8 V2 F2 s2 b2 => by
        have s3 := st.trans (Step.ahead kk s2)
        rw [← hs1.out] at s3 b2
        refine ⟨⟨V2, F2, s3, b2, fun x hx => ?_⟩, R1.kp (Step.ahead kk s2).kp hv1⟩
        intro hO
        rcases (Step.ahead kk s2).own x hO with e | e
        · exact hv1 x hx e
        · have h1 := hvlt.out x hx
          have h2 := st.kp.size
          omega
      clear st bt hv1 R1 kk P hs1 hm1
      obtain ⟨q0, q1⟩ := q
      unfold pairV at cp
      simp only at c0 c1 cp
      go_wp2_with fail
      refine cp.out.mono ?_
      rintro e w8 ⟨rfl, V2, F2, s2, b2⟩
      have P2 := Lib.hid (hR.out w8 V2 F2 s2 b2)
      clear s2 b2 hR cp c0 c1
      go_wp2_with fail
      exact ⟨⟨k + 1, by go_num, by omega, P2⟩, by simp [intOf]; omega⟩
    · have hkn : k = r.length := by omega
      subst hkn
      go_wp2_with fail
      go_end0
      obtain ⟨⟨V1, F1, st, bt, hv1⟩, R1⟩ := P.out
      rw [hfin.out] at st bt
      exact ⟨rfl, V1, F1, st, bt⟩
/-- The wheel's time written anew. -/
theorem Wh.setNow {base : Nat} {w : World} {b now : Nat} {m : Value} {V : Nat → Value} {F : Nat → Nat} {L : Nat → List ItemN} (h : Wh base w b now m V F L) (n : Nat) : Step base w b V (w.setCell ⟨b, 0, none⟩ (.int .i64 (n : Int))) n m V F L := by
  have ho : ∀ k, k ≠ b → (w.setCell ⟨b, 0, none⟩ (.int .i64 (n : Int))).heap[k]? = w.heap[k]? := fun k hk => heap_setCell_other _ _ _ _ hk
  have hc : ∀ d, d ≠ 0 → (w.setCell ⟨b, 0, none⟩ (.int .i64 (n : Int))).cell? ⟨b, d, none⟩ = w.cell? ⟨b, d, none⟩ := fun d hd => World.cell?_setCell_other _ _ _ _ (by intro e; injection e with _ e2; exact hd e2.symm)
  refine ⟨⟨h.low, by simp [World.setCell]; exact h.lt, fun d => by rw [World.frozen?_setCell]; exact h.free d, World.cell?_setCell_same _ _ _ h.now, (hc 1 (by omega)).trans h.times, fun c hc2 => (hc c (by have := isL_big hc2; omega)).trans (h.slot c hc2), fun i hi => (hc _ (by omega)).trans (h.full i hi), fun c hc2 => ?_, h.apart, h.nb⟩, ⟨rfl, rfl, rfl, by simp [World.setCell], fun k _ hk => ho k (fun e => hk (.inl e))⟩, fun k hk => .inl hk⟩
  exact World.ownsRow.kept (h.row c hc2) (row := some b) ⟨rfl, rfl, rfl, by simp [World.setCell], fun k _ hk => ho k (fun e => hk (by rw [e]))⟩ (.inr (h.nb c hc2))
/-- A list taken away whole. -/
theorem Wh.drop {base : Nat} {w : World} {b now : Nat} {m : Value} {V : Nat → Value} {F : Nat → Nat} {L : Nat → List ItemN} (h : Wh base w b now m V F L) {c : Nat} (hc : IsL c) : Step base w b V (w.setCell ⟨b, c, none⟩ (.slice none 0 0)) now m (putV V c (.slice none 0 0)) F (put L c []) := by
  have U0 : Upd base b w (V c) w (.slice none 0 0) [] (vw w b) := ⟨fun _ => rfl, Rw.nil _ _, fun _ h => h, fun _ _ _ _ => rfl, Nat.le_refl _, rfl, rfl, rfl, fun k hk => by simp [Value.ownBlock] at hk, by simp [Value.ownBlock]⟩
  exact h.upd hc (U0.set (by show (w.cell? _).isSome = true; rw [h.slot c hc]; rfl) (.slice none 0 0)) (upd1_same _ _ _) (fun d hd _ => upd1_other _ _ hd) (upd1_full h hc _)
theorem drop_own {V : Nat → Value} {b c : Nat} {base : Nat} {w : World} {now : Nat} {m : Value} {F : Nat → Nat} {L : Nat → List ItemN} (h : Wh base w b now m V F L) (hc : IsL c) : ∀ x, (V c).ownBlock = some x → ¬ OwnL b (putV V c (.slice none 0 0)) x := by
  intro x hx hO
  rcases hO with e | ⟨d, hd, e⟩
  · exact h.nb c hc (by rw [hx, e])
  · by_cases ed : d = c
    · subst ed; rw [putV_same] at e; simp [Value.ownBlock] at e
    · rw [putV_other _ _ ed] at e
      exact h.apart c d hc hd (Ne.symm ed) x hx e

def Empty6 (L : Nat → List ItemN) : Prop := ∀ i s, i < 6 → s < 64 → L (4 + 65 * i + s) = []
/-- The whole of a wheel: what lies in the world, and which pairs it holds. -/
structure WhlS (base : Nat) (w : World) (b now : Nat) (m : Value) (V : Nat → Value) (F : Nat → Nat) (L : Nat → List ItemN) (l : List ItemN) : Prop where
  wh : Wh base w b now m V F L
  bits : Bits F L
  ok : Ok now l L
  max : ∀ p, p ∈ l → p.1 ≤ 1099511627776
  len : l.length ≤ 50000

theorem comeRound_none (base : Nat) (w : World) (b now : Nat) (m : Value) (V : Nat → Value) (F : Nat → Nat) (L : Nat → List ItemN) (l : List ItemN) (h : WhlS base w b now m V F L l) (h0 : L 393 = []) (tt : Nat) :
    Calls Tryd.prog 41 #[.pointer (some ⟨b, 0, none⟩), .int .i64 tt] w fun e w' => e = .returned (.bool false) ∧ Below w.heap.size w w' := by
  have c := h.wh.slot 393 (.inr (.inl rfl))
  obtain ⟨a, cap, hv, _, _, _⟩ := (h.wh.row 393 (.inr (.inl rfl))).look
  rw [h0] at hv
  rw [hv] at c
  simp only [List.length_nil] at c
  clear h hv
  go_enter Tryd.func41, Tryd.ntmps41
  go_wp2_with fail
  go_ret
  exact ⟨rfl, Below.refl _ _⟩

set_option maxHeartbeats 2000000 in
set_option maxRecDepth 100000 in
theorem comeRound_some (base : Nat) (w : World) (b now : Nat) (m : Value) (V : Nat → Value) (F : Nat → Nat) (L : Nat → List ItemN) (l : List ItemN) (h : WhlS base w b now m V F L l) (h6 : Empty6 L) (h0 : L 393 ≠ []) (tt : Nat) (hto : now ≤ tt) (hto2 : (tt : Int) ≤ 1099511627776) :
    Calls Tryd.prog 41 #[.pointer (some ⟨b, 0, none⟩), .int .i64 tt] w fun e w' => (e = .returned (.bool false) ∧ Below w.heap.size w w' ∧ Ok tt l L ∧ ∀ p, p ∈ l → now < p.1 → tt < p.1) ∨
      (e = .returned (.bool true) ∧ ∃ n V' F' L', now < n ∧ n ≤ tt ∧ Step base w b V w' n m V' F' L' ∧ Bits F' L' ∧ Ok n l L') := by
  have i3 : IsL 393 := .inr (.inl rfl)
  have hpos : 0 < (L 393).length := List.length_pos_iff.2 h0
  have c := h.wh.slot 393 i3
  have hlen : (L 393).length ≤ 50000 := Nat.le_trans (h.ok.len 393) h.len
  have cl := Lib.hid (least_any base (V 393) (L 393) w (h.wh.row 393 i3) hpos (by omega))
  have hmem := minTo_mem (L 393) hpos
  have hmin : ∀ p, p ∈ L 393 → (minTo (L 393) (L 393).length).1 ≤ p.1 := fun p hp => minTo_le (L 393) hp
  have hmm := h.max _ (h.ok.mem.1 hmem).1
  have hrd := h.ok.round h6 ⟨_, hmem, rfl⟩
  generalize hM : (minTo (L 393) (L 393).length).1 = M at *
  have e36 : (64 : Nat) ^ 6 = 68719476736 := by decide
  have hfar : Hid (tt < M / 68719476736 * 68719476736 → Ok tt l L ∧ ∀ p, p ∈ l → now < p.1 → tt < p.1) := fun ht => h.ok.far h6 hmin hto (by rw [e36]; exact ht)
  rw [e36] at hrd
  obtain ⟨n, hn⟩ : ∃ n : Nat, (M : Int) / 68719476736 * 68719476736 = (n : Int) := ⟨M / 68719476736 * 68719476736, by omega⟩
  have hn2 : M / 68719476736 * 68719476736 = n := by omega
  rw [hn2] at hrd hfar
  have hM1 : (M : Int) ≤ 1099511627776 := by omega
  have hn1 : (n : Int) ≤ 1099511627776 := by omega
  have hru : Hid (∀ W, Below w.heap.size w W → Step base w b V ((W.setCell ⟨b, 0, none⟩ (.int .i64 (n : Int))).setCell ⟨b, 393, none⟩ (.slice none 0 0)) n m (putV V 393 (.slice none 0 0)) F (put L 393 []) ∧ Calls Tryd.prog 39 #[.pointer (some ⟨b, 0, none⟩), V 393] ((W.setCell ⟨b, 0, none⟩ (.int .i64 (n : Int))).setCell ⟨b, 393, none⟩ (.slice none 0 0)) fun e w' => e = .returned (.tuple #[]) ∧ ∃ V' F', Step base w b V w' n m V' F' (putAllL n (L 393) (put L 393 [])) ∧ Bits F' (putAllL n (L 393) (put L 393 []))) := fun W hW => by
    have hw := h.wh.below hW
    have s1 := hw.setNow n
    have s2 := s1.wh.drop i3
    have s3 : Step base w b V ((W.setCell ⟨b, 0, none⟩ (.int .i64 (n : Int))).setCell ⟨b, 393, none⟩ (.slice none 0 0)) n m (putV V 393 (.slice none 0 0)) F (put L 393 []) := Step.ahead hW (s1.trans s2)
    refine ⟨s3, ?_⟩
    have ok2 := h.ok.cut (c := 393) (Nat.le_of_lt hrd.1) (by omega) (fun p hp hpn hne => absurd (h.ok.beyond h6 hp hpn).1 hne)
    have hrow : Rw base ((W.setCell ⟨b, 0, none⟩ (.int .i64 (n : Int))).setCell ⟨b, 393, none⟩ (.slice none 0 0)) (V 393) (L 393) := by
      have r1 := s1.wh.row 393 i3
      exact World.ownsRow.kept r1 (row := some b) ⟨rfl, rfl, rfl, by simp [World.setCell], fun k _ hk => heap_setCell_other _ _ _ _ (fun e => hk (by rw [e]))⟩ (.inr (h.wh.nb 393 i3))
    refine (putInAll_any base _ b n m _ F _ _ (L 393) (V 393) s3.wh (h.bits.put_out (.inr rfl) []) ok2 hrow (drop_own hw i3) (h.ok.nodup 393) (fun p hp hm => ?_) (fun p hp => h.max p (h.ok.mem.1 hp).1) ?_).mono ?_
    · have h1 := (h.ok.mem.1 hp).2
      have h2 := (List.mem_filter.1 hm).2
      simp_all
    · have h1 := List.length_filter_le (fun p : ItemN => place now p.1 != 393) l
      have h2 := h.len
      omega
    · rintro e w' ⟨he, V', F', s4, b4⟩
      exact ⟨he, V', F', s3.trans s4, b4⟩
  have okN := Lib.hid hrd.2
  have hnn : Hid (now < n) := hrd.1
  obtain ⟨a, cap, hv, _, _, _⟩ := (h.wh.row 393 i3).look
  have f0 := Lib.hid (fun W (hW : Below w.heap.size w W) => (h.wh.below hW).free)
  have fc := Lib.hid (fun W (hW : Below w.heap.size w W) => (h.wh.below hW).now)
  have fs := Lib.hid (fun W (hW : Below w.heap.size w W) => (h.wh.below hW).slot 393 i3)
  have fn := Lib.hid (fun W (hW : Below w.heap.size w W) => ((h.wh.below hW).setNow n).wh)
  have hz : (((L 393).length : Int) == 0) = false := by rw [beq_eq_false_iff_ne]; omega
  rw [hv] at c cl
  clear h h0 hpos hmem hmin hmm hrd hn2 hlen hM
  generalize hl8 : (L 393).length = n8 at *
  clear hl8
  go_enter Tryd.func41, Tryd.ntmps41
  go_wp2_with fail
  refine cl.out.mono ?_
  rintro e w2 ⟨rfl, k⟩
  have hk := Lib.hid k
  clear k cl c
  have c := fs.out w2 hk.out
  have c0 := fc.out w2 hk.out
  have g0 := f0.out w2 hk.out 0
  have c3 := (fn.out w2 hk.out).slot 393 i3
  have g3 := (fn.out w2 hk.out).free 393
  obtain ⟨st, cr⟩ := hru.out w2 hk.out
  replace st := Lib.hid st
  replace cr := Lib.hid cr
  rw [hv] at c c3 cr
  clear hru f0 fc fs fn hto hv
  by_cases hgt : (tt : Int) < n
  · have hf := Lib.hid (hfar.out (by omega))
    clear hfar cr st c3 g3 okN
    go_wp2_with fail
    go_ret
    exact .inl ⟨rfl, hk.out, hf.out⟩
  · clear hfar
    go_wp2_with fail
    refine cr.out.mono ?_
    rintro e w8 ⟨rfl, V8, F8, s8, b8⟩
    go_wp2_with fail
    go_ret
    exact .inr ⟨rfl, n, V8, F8, _, hnn.out, by omega, s8, b8, okN.out⟩
end Go.Proofs.YthobffeafddonaaDoor
