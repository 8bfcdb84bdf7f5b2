/-
  Layer 6: At and Remove.
-/
import Derived.Test.YthobffeafddonaaDoorWOnce
import Derived.Test.YthobffeafddonaaDoorWTake
set_option linter.unusedVariables false
namespace Go.Proofs.YthobffeafddonaaDoor
open Go.RowKit Whl Go.ChangeMaps

theorem int_look_ok {w : World} {mb : Nat} {t : List (Nat × Nat)} (hm : IntMap w mb t) (hl : ∀ p ∈ t, p.1 ≤ 1048576) (hk : t.Pairwise fun p q => p.1 ≠ q.1) {id v : Nat} (hp : (id, v) ∈ t) :
    (Instr.lookup 50 (.map (some mb)) (.int .i64 (id : Int)) true).run Tryd.prog w = .ok (.tuple #[.int .i64 (v : Int), .bool true]) w := by
  have h0 := int_look_some hm hl hk hp
  obtain ⟨es, clock, hb, he⟩ := hm
  obtain ⟨k1, k2⟩ := intmap_keys hl he
  have hid := hl _ hp
  have hkey := key_int (a := (id : Int)) (by omega) (by simp only at hid; omega)
  rcases keyed3.find w hkey es.toList k1 with ⟨f1, f2⟩ | ⟨j, e0, f1, f2, f3⟩
  · have : (Value.int .i64 (id : Int), Value.int .i64 (v : Int)) ∈ es.toList.map (fun e => (e.key, e.val)) := by
      rw [he]
      exact List.mem_map.2 ⟨_, hp, rfl⟩
    obtain ⟨x, hx, ex⟩ := List.mem_map.1 this
    injection ex with a _
    exact absurd a (f2 x hx)
  · simp [Instr.lookup, run_underlying map50, MapKept.run_getObj_map hb, keyed3.check w _ hkey, f1, Result.andThen] at h0 ⊢
    exact h0

theorem TOk.there {t : List (Nat × Nat)} {l : List ItemN} (h : TOk t l) {a id : Nat} (hp : (a, id) ∈ l) : (id, a) ∈ t := by
  have : (a, id) ∈ t.map fun p => (p.2, p.1) := h.perm.mem_iff.2 hp
  obtain ⟨q, hq, e⟩ := List.mem_map.1 this
  injection e with e1 e2
  have : q = (id, a) := by rw [← e1, ← e2]
  rw [← this]; exact hq

theorem at_some (base : Nat) (w : World) (b now : Nat) (l : List ItemN) (O : Nat → Prop) (a id : Nat) (h : WT base w b now l O) (hp : (a, id) ∈ l) :
    Calls Tryd.prog 23 #[.pointer (some ⟨b, 0, none⟩), .int .i64 id] w fun e w' => e = .returned (.tuple #[.int .i64 a, .bool true]) ∧ w = w' := by
  obtain ⟨m, V, F, L, t, hS, tm, tok, o1, o2⟩ := h.ex
  have c1 := hS.wh.times
  rcases tm with ⟨rfl, rfl⟩ | ⟨mb, rfl, hmb, im⟩
  · have := tok.there hp
    simp at this
  · have hlk := int_look_ok im tok.small tok.keys (tok.there hp)
    clear h hS tok o1 o2 hp im
    go_enter Tryd.func23, Tryd.ntmps23
    go_wp2_with fail
    go_ret2
    exact ⟨rfl, rfl⟩
theorem at_none (base : Nat) (w : World) (b now : Nat) (l : List ItemN) (O : Nat → Prop) (id : Int) (h1 : -9223372036854775808 ≤ id) (h2 : id ≤ 9223372036854775807) (h : WT base w b now l O) (hn : ∀ p, p ∈ l → (p.2 : Int) ≠ id) :
    Calls Tryd.prog 23 #[.pointer (some ⟨b, 0, none⟩), .int .i64 id] w fun e w' => e = .returned (.tuple #[.int .i64 0, .bool false]) ∧ w = w' := by
  obtain ⟨m, V, F, L, t, hS, tm, tok, o1, o2⟩ := h.ex
  have c1 := hS.wh.times
  rcases tm with ⟨rfl, rfl⟩ | ⟨mb, rfl, hmb, im⟩
  · have hlk := int_look_nil w id h1 h2
    clear h hS tok o1 o2 hn h1 h2
    go_enter Tryd.func23, Tryd.ntmps23
    go_wp2_with fail
    go_ret2
    exact ⟨rfl, rfl⟩
  · have hlk := int_look_none im tok.small id h1 h2 (fun p hp => by
      have : (p.2, p.1) ∈ l := tok.perm.mem_iff.1 (List.mem_map.2 ⟨p, hp, rfl⟩)
      exact hn _ this)
    clear h hS tok o1 o2 hn im h1 h2
    go_enter Tryd.func23, Tryd.ntmps23
    go_wp2_with fail
    go_ret2
    exact ⟨rfl, rfl⟩

theorem up_nodup {l : List ItemN} (h : Up l) : l.Nodup := h.imp (fun {p q} hpq e => by subst e; rw [ltB_iff] at hpq; omega)
theorem TOk.less {t : List (Nat × Nat)} {l : List ItemN} (h : TOk t l) (hu : Up l) {x : ItemN} (hx : x ∈ l) : (x.2, x.1) ∈ t ∧ TOk (t.erase (x.2, x.1)) (l.filter (· != x)) := by
  have h2 : TOk t (x :: l.filter (· != x)) := ⟨h.perm.trans (by
    have := List.perm_cons_erase hx
    rwa [(up_nodup hu).erase_eq_filter] at this), h.keys, h.small⟩
  exact h2.gone

set_option maxHeartbeats 4000000 in
set_option maxRecDepth 100000 in
theorem rem_some (base : Nat) (w : World) (b now : Nat) (l : List ItemN) (O : Nat → Prop) (a id : Nat) (h : WT base w b now l O) (hp : (a, id) ∈ l) :
    Calls Tryd.prog 13 #[.pointer (some ⟨b, 0, none⟩), .int .i64 id] w fun e w' => e = .returned (.bool true) ∧ ∃ O', After base w O w' b now (l.filter (· != (a, id))) O' := by
  have ca := Lib.hid (at_some base w b now l O a id h hp)
  obtain ⟨m, V, F, L, t, hS, tm, tok, o1, o2⟩ := h.ex
  have ct := Lib.hid (takeOut_any base w b now m V F L (a, id) hS.wh hS.bits (hS.max _ hp) (hS.ok.mem.2 ⟨hp, rfl⟩) (fun c hc => Nat.le_trans (hS.ok.len c) (by have := hS.len; omega)))
  rcases tm with ⟨rfl, rfl⟩ | ⟨mb, rfl, hmb, im⟩
  · have := tok.there hp
    simp at this
  · obtain ⟨t1, t2⟩ := tok.less hS.ok.up hp
    have hap := TM.apart hS.wh (.inr ⟨mb, rfl, hmb, im⟩ : TM base w (.map (some mb)) t) mb rfl
    have hend : Hid (∀ w1 V1 F1, Step base w b V w1 now (.map (some mb)) V1 F1 (takeOutL now (a, id) L) → Bits F1 (takeOutL now (a, id) L) → w1.cell? ⟨b, 1, none⟩ = some (.map (some mb)) ∧ ∃ w2, (∀ ty, (Builtin.delete_ #[50, 3] ty #[.map (some mb), .int .i64 (id : Int)]).run Tryd.prog w1 = .ok (.tuple #[]) w2) ∧ ∃ O', After base w O w2 b now (l.filter (· != (a, id))) O') := fun w1 V1 F1 st bt => by
      have im1 : IntMap w1 mb t := im.kept (st.kp.block mb im.lt hap)
      have hap1 := TM.apart st.wh (.inr ⟨mb, rfl, hmb, im1⟩ : TM base w1 (.map (some mb)) t) mb rfl
      obtain ⟨w2, r1, im2, gr2, sz2⟩ := int_delete im1 tok.small tok.keys t1
      have hw2 : Wh base w2 b now (.map (some mb)) V1 F1 (takeOutL now (a, id) L) := st.wh.kept (by omega) (fun x hx => gr2.block x (st.wh.own_low hx).2 (fun e => by injection e with e; subst e; exact hap1 hx))
      have own : ∀ k, OwnW b V1 (.map (some mb)) k → O k ∨ w.heap.size ≤ k := fun k hk => by
        rcases hk with e | e
        · rcases st.own k e with g | g
          · exact .inl (o1 k g)
          · exact .inr g
        · exact .inl (o2 k e)
      have kp1 : Kp O w w1 := st.kp.mono (fun i hi => .inl (o1 i hi))
      have kp2 : Kp O w w2 := ⟨gr2.os.trans kp1.os, gr2.tape.trans kp1.tape, gr2.output.trans kp1.output, by have := kp1.size; omega, fun k hk hO => (gr2.block k (by have := kp1.size; omega) (fun e => by injection e with e; subst e; exact hO (o2 _ rfl))).trans (kp1.block k hk hO)⟩
      refine ⟨st.wh.times, w2, r1, OwnW b V1 (.map (some mb)), ⟨⟨.map (some mb), V1, F1, _, _, ⟨hw2, bt, hS.ok.takeOut (a, id), fun p hp2 => hS.max p (List.mem_filter.1 hp2).1, Nat.le_trans (List.length_filter_le _ _) hS.len⟩, .inr ⟨mb, rfl, hmb, im2⟩, t2, fun k hk => .inl hk, fun mb e => .inr e⟩, h.bru.kp kp2 (fun x hx => Nat.lt_of_lt_of_le h.pos (h.low x hx)), fun k hk => ?_, h.pos, h.top⟩, kp2, own⟩
      rcases own k hk with g | g
      · exact h.low k g
      · have := hS.wh.low; have := hS.wh.lt; omega
    have hbld : ∀ W, (Instr.build 52 #[(0, .int .i64 (a : Int)), (1, .int .i64 (id : Int))]).run Tryd.prog W = .ok (.agg #[.int .i64 (a : Int), .int .i64 (id : Int)]) W := fun W => by kernel_rfl
    unfold pairV at ct
    clear h hS tok o1 o2 hp im t1 t2 hap
    go_enter Tryd.func13, Tryd.ntmps13
    go_wp2_with fail
    refine ca.out.mono ?_
    rintro e w0 ⟨rfl, rfl⟩
    go_wp2_with fail
    refine ct.out.mono ?_
    rintro e w1 ⟨rfl, V1, F1, st, bt⟩
    obtain ⟨c1, w2, hdel, A2⟩ := hend.out w1 V1 F1 st bt
    replace A2 := Lib.hid A2
    clear st bt hend ct ca
    go_wp2_with fail
    go_ret
    exact ⟨rfl, A2.out⟩
theorem rem_none (base : Nat) (w : World) (b now : Nat) (l : List ItemN) (O : Nat → Prop) (id : Int) (h1 : -9223372036854775808 ≤ id) (h2 : id ≤ 9223372036854775807) (h : WT base w b now l O) (hn : ∀ p, p ∈ l → (p.2 : Int) ≠ id) :
    Calls Tryd.prog 13 #[.pointer (some ⟨b, 0, none⟩), .int .i64 id] w fun e w' => e = .returned (.bool false) ∧ w = w' := by
  have ca := Lib.hid (at_none base w b now l O id h1 h2 h hn)
  clear h hn h1 h2
  go_enter Tryd.func13, Tryd.ntmps13
  go_wp2_with fail
  refine ca.out.mono ?_
  rintro e w0 ⟨rfl, rfl⟩
  go_wp2_with fail
  go_ret
  exact ⟨rfl, rfl⟩
end Go.Proofs.YthobffeafddonaaDoor
