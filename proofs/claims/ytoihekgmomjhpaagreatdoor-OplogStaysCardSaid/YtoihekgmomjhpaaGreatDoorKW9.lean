/-
  Texts laid into one (a claim has 60 files at most): WRem, WOld.
-/
import Derived.Test.YtoihekgmomjhpaaGreatDoorKW8
/-
  Layer 6: At and Remove.
-/
set_option linter.unusedVariables false
namespace Go.Proofs.YtoihekgmomjhpaaGreatDoor.W
set_option maxRecDepth 100000
open Go.RowKit Whl Go.ChangeMaps
theorem int_look_ok {w : World} {mb : Nat} {t : List (Nat × Nat)} (hm : IntMap w mb t) (hl : ∀ p ∈ t, p.1 ≤ 1048576) (hk : t.Pairwise fun p q => p.1 ≠ q.1) {id v : Nat} (hp : (id, v) ∈ t) :
    (Instr.lookup 109 (.map (some mb)) (.int .i64 (id : Int)) true).run Tryz.prog w = .ok (.tuple #[.int .i64 (v : Int), .bool true]) w := by
  have h0 := int_look_some hm hl hk hp
  obtain ⟨es, clock, hb, he⟩ := hm
  obtain ⟨k1, k2⟩ := intmap_keys hl he
  have hid := hl _ hp
  have hkey := key_int (a := (id : Int)) (by omega) (by simp only at hid; omega)
  rcases keyed3.find w hkey es.toList k1 with ⟨f1, f2⟩ | ⟨j, e0, f1, f2, f3⟩
  · have : (Value.int .i64 (id : Int), Value.int .i64 (v : Int)) ∈ es.toList.map (fun e => (e.key, e.val)) := by
      rw [he]
      exact List.mem_map.2 ⟨_, hp, rfl⟩
    obtain ⟨x, hx, ex⟩ := List.mem_map.1 this
    injection ex with a _
    exact absurd a (f2 x hx)
  · simp [Instr.lookup, run_underlying map50, MapKept.run_getObj_map hb, keyed3.check w _ hkey, f1, Result.andThen] at h0 ⊢
    exact h0
theorem TOk.there {t : List (Nat × Nat)} {l : List ItemN} (h : TOk t l) {a id : Nat} (hp : (a, id) ∈ l) : (id, a) ∈ t := by
  have : (a, id) ∈ t.map fun p => (p.2, p.1) := h.perm.mem_iff.2 hp
  obtain ⟨q, hq, e⟩ := List.mem_map.1 this
  injection e with e1 e2
  have : q = (id, a) := by rw [← e1, ← e2]
  rw [← this]; exact hq
theorem at_some (base : Nat) (w : World) (b now : Nat) (l : List ItemN) (O : Nat → Prop) (a id : Nat) (h : WT base w b now l O) (hp : (a, id) ∈ l) :
    Calls Tryz.prog 71 #[.pointer (some ⟨b, 0, none⟩), .int .i64 id] w fun e w' => e = .returned (.tuple #[.int .i64 a, .bool true]) ∧ w = w' := by
  obtain ⟨m, V, F, L, t, hS, tm, tok, o1, o2⟩ := h.ex
  have c1 := hS.wh.times
  rcases tm with ⟨rfl, rfl⟩ | ⟨mb, rfl, hmb, im⟩
  · have := tok.there hp
    simp at this
  · have hlk := int_look_ok im tok.small tok.keys (tok.there hp)
    clear h hS tok o1 o2 hp im
    go_enter Tryz.func71, Tryz.ntmps71
    go_wp2_with fail
    go_ret2
    exact ⟨rfl, rfl⟩
theorem at_none (base : Nat) (w : World) (b now : Nat) (l : List ItemN) (O : Nat → Prop) (id : Int) (h1 : -9223372036854775808 ≤ id) (h2 : id ≤ 9223372036854775807) (h : WT base w b now l O) (hn : ∀ p, p ∈ l → (p.2 : Int) ≠ id) :
    Calls Tryz.prog 71 #[.pointer (some ⟨b, 0, none⟩), .int .i64 id] w fun e w' => e = .returned (.tuple #[.int .i64 0, .bool false]) ∧ w = w' := by
  obtain ⟨m, V, F, L, t, hS, tm, tok, o1, o2⟩ := h.ex
  have c1 := hS.wh.times
  rcases tm with ⟨rfl, rfl⟩ | ⟨mb, rfl, hmb, im⟩
  · have hlk := int_look_nil w id h1 h2
    clear h hS tok o1 o2 hn h1 h2
    go_enter Tryz.func71, Tryz.ntmps71
    go_wp2_with fail
    go_ret2
    exact ⟨rfl, rfl⟩
  · have hlk := int_look_none im tok.small id h1 h2 (fun p hp => by
      have : (p.2, p.1) ∈ l := tok.perm.mem_iff.1 (List.mem_map.2 ⟨p, hp, rfl⟩)
      exact hn _ this)
    clear h hS tok o1 o2 hn im h1 h2
    go_enter Tryz.func71, Tryz.ntmps71
    go_wp2_with fail
    go_ret2
    exact ⟨rfl, rfl⟩
theorem up_nodup {l : List ItemN} (h : Up l) : l.Nodup := h.imp (fun {p q} hpq e => by subst e; rw [ltB_iff] at hpq; omega)
theorem TOk.less {t : List (Nat × Nat)} {l : List ItemN} (h : TOk t l) (hu : Up l) {x : ItemN} (hx : x ∈ l) : (x.2, x.1) ∈ t ∧ TOk (t.erase (x.2, x.1)) (l.filter (· != x)) := by
  have h2 : TOk t (x :: l.filter (· != x)) := ⟨h.perm.trans (by
    have := List.perm_cons_erase hx
    rwa [(up_nodup hu).erase_eq_filter] at this), h.keys, h.small⟩
  exact h2.gone
set_option maxHeartbeats 4000000 in
set_option maxRecDepth 100000 in
theorem rem_some (base : Nat) (w : World) (b now : Nat) (l : List ItemN) (O : Nat → Prop) (a id : Nat) (h : WT base w b now l O) (hp : (a, id) ∈ l) :
    Calls Tryz.prog 53 #[.pointer (some ⟨b, 0, none⟩), .int .i64 id] w fun e w' => e = .returned (.bool true) ∧ ∃ O', After base w O w' b now (l.filter (· != (a, id))) O' := by
  have ca := Lib.hid (at_some base w b now l O a id h hp)
  obtain ⟨m, V, F, L, t, hS, tm, tok, o1, o2⟩ := h.ex
  have ct := Lib.hid (takeOut_any base w b now m V F L (a, id) hS.wh hS.bits (hS.max _ hp) (hS.ok.mem.2 ⟨hp, rfl⟩) (fun c hc => Nat.le_trans (hS.ok.len c) (by have := hS.len; omega)))
  rcases tm with ⟨rfl, rfl⟩ | ⟨mb, rfl, hmb, im⟩
  · have := tok.there hp
    simp at this
  · obtain ⟨t1, t2⟩ := tok.less hS.ok.up hp
    have hap := TM.apart hS.wh (.inr ⟨mb, rfl, hmb, im⟩ : TM base w (.map (some mb)) t) mb rfl
    have hend : Hid (∀ w1 V1 F1, Step base w b V w1 now (.map (some mb)) V1 F1 (takeOutL now (a, id) L) → Bits F1 (takeOutL now (a, id) L) → w1.cell? ⟨b, 1, none⟩ = some (.map (some mb)) ∧ ∃ w2, (∀ ty, (Builtin.delete_ #[109, 3] ty #[.map (some mb), .int .i64 (id : Int)]).run Tryz.prog w1 = .ok (.tuple #[]) w2) ∧ ∃ O', After base w O w2 b now (l.filter (· != (a, id))) O') := fun w1 V1 F1 st bt => by
      have im1 : IntMap w1 mb t := im.kept (st.kp.block mb im.lt hap)
      have hap1 := TM.apart st.wh (.inr ⟨mb, rfl, hmb, im1⟩ : TM base w1 (.map (some mb)) t) mb rfl
      obtain ⟨w2, r1, im2, gr2, sz2⟩ := int_delete im1 tok.small tok.keys t1
      have hw2 : Wh base w2 b now (.map (some mb)) V1 F1 (takeOutL now (a, id) L) := st.wh.kept (by omega) (fun x hx => gr2.block x (st.wh.own_low hx).2 (fun e => by injection e with e; subst e; exact hap1 hx))
      have own : ∀ k, OwnW b V1 (.map (some mb)) k → O k ∨ w.heap.size ≤ k := fun k hk => by
        rcases hk with e | e
        · rcases st.own k e with g | g
          · exact .inl (o1 k g)
          · exact .inr g
        · exact .inl (o2 k e)
      have kp1 : Kp O w w1 := st.kp.mono (fun i hi => .inl (o1 i hi))
      have kp2 : Kp O w w2 := ⟨gr2.os.trans kp1.os, gr2.tape.trans kp1.tape, gr2.output.trans kp1.output, by have := kp1.size; omega, fun k hk hO => (gr2.block k (by have := kp1.size; omega) (fun e => by injection e with e; subst e; exact hO (o2 _ rfl))).trans (kp1.block k hk hO)⟩
      refine ⟨st.wh.times, w2, r1, OwnW b V1 (.map (some mb)), ⟨⟨.map (some mb), V1, F1, _, _, ⟨hw2, bt, hS.ok.takeOut (a, id), fun p hp2 => hS.max p (List.mem_filter.1 hp2).1, Nat.le_trans (List.length_filter_le _ _) hS.len⟩, .inr ⟨mb, rfl, hmb, im2⟩, t2, fun k hk => .inl hk, fun mb e => .inr e⟩, h.bru.kp kp2 (fun x hx => Nat.lt_of_lt_of_le h.pos (h.low x hx)), fun k hk => ?_, h.pos, h.top⟩, kp2, own⟩
      rcases own k hk with g | g
      · exact h.low k g
      · have := hS.wh.low; have := hS.wh.lt; omega
    have hbld : ∀ W, (Instr.build 100 #[(0, .int .i64 (a : Int)), (1, .int .i64 (id : Int))]).run Tryz.prog W = .ok (.agg #[.int .i64 (a : Int), .int .i64 (id : Int)]) W := fun W => by kernel_rfl
    unfold pairV at ct
    clear h hS tok o1 o2 hp im t1 t2 hap
    go_enter Tryz.func53, Tryz.ntmps53
    go_wp2_with fail
    refine ca.out.mono ?_
    rintro e w0 ⟨rfl, rfl⟩
    go_wp2_with fail
    refine ct.out.mono ?_
    rintro e w1 ⟨rfl, V1, F1, st, bt⟩
    obtain ⟨c1, w2, hdel, A2⟩ := hend.out w1 V1 F1 st bt
    replace A2 := Lib.hid A2
    clear st bt hend ct ca
    go_wp2_with fail
    go_ret
    exact ⟨rfl, A2.out⟩
theorem rem_none (base : Nat) (w : World) (b now : Nat) (l : List ItemN) (O : Nat → Prop) (id : Int) (h1 : -9223372036854775808 ≤ id) (h2 : id ≤ 9223372036854775807) (h : WT base w b now l O) (hn : ∀ p, p ∈ l → (p.2 : Int) ≠ id) :
    Calls Tryz.prog 53 #[.pointer (some ⟨b, 0, none⟩), .int .i64 id] w fun e w' => e = .returned (.bool false) ∧ w = w' := by
  have ca := Lib.hid (at_none base w b now l O id h1 h2 h hn)
  clear h hn h1 h2
  go_enter Tryz.func53, Tryz.ntmps53
  go_wp2_with fail
  refine ca.out.mono ?_
  rintro e w0 ⟨rfl, rfl⟩
  go_wp2_with fail
  go_ret
  exact ⟨rfl, rfl⟩
end Go.Proofs.YtoihekgmomjhpaaGreatDoor.W

/-
  Layer 6: Set of an id that is there: it goes from where it is, the map's entry is written anew, and it is put in at its new time.
-/
set_option linter.unusedVariables false
namespace Go.Proofs.YtoihekgmomjhpaaGreatDoor.W
set_option maxRecDepth 100000
open Go.RowKit Whl Go.ChangeMaps
theorem stays_int (w : World) (x : Int) : (Instr.keyThatStays (.int .i64 x) (.int .i64 x)).run Tryz.prog w = .ok (.int .i64 x) w := by
  have h : Instr.sameBits 10000 (.int .i64 x) (.int .i64 x) = true := by
    unfold Instr.sameBits
    simp
  simp [Instr.keyThatStays, h]
theorem int_update {w : World} {mb : Nat} {t : List (Nat × Nat)} (hm : IntMap w mb t) (hl : ∀ p ∈ t, p.1 ≤ 1048576) (hk : t.Pairwise fun p q => p.1 ≠ q.1) {id v : Nat} (hp : (id, v) ∈ t) (v2 : Nat) :
    ∃ w' j, ∃ hj : j < t.length, t[j] = (id, v) ∧ (Instr.mapUpdate 109 (.map (some mb)) (.int .i64 (id : Int)) (.int .i64 (v2 : Int))).run Tryz.prog w = .ok () w' ∧ IntMap w' mb (t.set j (id, v2)) ∧ w.grownBy w' (some mb) ∧ w'.heap.size = w.heap.size := by
  obtain ⟨es, clock, hb, he⟩ := hm
  obtain ⟨k1, k2⟩ := intmap_keys hl he
  have hid := hl _ hp
  have hkey := key_int (a := (id : Int)) (by omega) (by simp only at hid; omega)
  rcases keyed3.find w hkey es.toList k1 with ⟨f1, f2⟩ | ⟨j, e0, f1, f2, f3⟩
  · have : (Value.int .i64 (id : Int), Value.int .i64 (v : Int)) ∈ es.toList.map (fun e => (e.key, e.val)) := by
      rw [he]
      exact List.mem_map.2 ⟨_, hp, rfl⟩
    obtain ⟨x, hx, ex⟩ := List.mem_map.1 this
    injection ex with a _
    exact absurd a (f2 x hx)
  · have hj : j < es.size := by
      have := (List.getElem?_eq_some_iff.1 f2).1
      simpa using this
    have hlen : es.toList.length = t.length := by
      have := congrArg List.length he
      simpa using this
    have hjt : j < t.length := by rw [← hlen]; simpa using hj
    have hat : t[j] = (id, v) := by
      have h1 := congrArg (·[j]?) he
      simp only [List.getElem?_map, f2, List.getElem?_eq_getElem hjt, Option.map_some] at h1
      injection h1 with h1
      injection h1 with h2 h3
      rw [f3] at h2
      injection h2 with _ h2
      have hid2 : t[j].1 = id := by omega
      obtain ⟨i2, hi2, e3⟩ := List.mem_iff_getElem.1 hp
      rcases Nat.lt_trichotomy j i2 with g | g | g
      · exact absurd (by rw [e3]; exact hid2) (List.pairwise_iff_getElem.1 hk j i2 hjt hi2 g)
      · subst g; exact e3
      · exact absurd (by rw [e3]; exact hid2.symm) (List.pairwise_iff_getElem.1 hk i2 j hi2 hjt g)
    have f2' : es[j]? = some e0 := by rw [← Array.getElem?_toList]; exact f2
    refine ⟨setBlock w mb (.map (es.modify j fun e => { e with key := .int .i64 (id : Int), val := .int .i64 (v2 : Int) }) clock), j, hjt, hat, ?_, ⟨_, _, heap_setBlock_same hb _, ?_⟩, ⟨rfl, rfl, rfl, by simp [setBlock], fun k _ hk => heap_setBlock_other hb _ (fun e => hk (by rw [e]))⟩, by simp [setBlock]⟩
    · simp [Instr.mapUpdate, run_underlying map50, MapKept.run_getObj_map hb, keyed3.check w false hkey, f1, f2', f3, stays_int, MapKept.run_setObj_map _ hb, Result.andThen, setBlock]
    · apply List.ext_getElem?
      intro i
      have h1 := congrArg (·[i]?) he
      simp only [List.getElem?_map] at h1
      rw [List.getElem?_map, List.getElem?_map, Array.getElem?_toList, Array.getElem?_modify, List.getElem?_set]
      by_cases e : j = i
      · subst e
        rw [if_pos rfl, if_pos rfl, f2', if_pos hjt]
        rfl
      · rw [if_neg e, if_neg e, ← Array.getElem?_toList]
        exact h1
theorem TOk.again {t : List (Nat × Nat)} {l : List ItemN} (h : TOk t l) (hu : Up l) {a0 a id j : Nat} (hx : (a0, id) ∈ l) (hj : j < t.length) (hat : t[j] = (id, a0)) : TOk (t.set j (id, a)) (ins (a, id) (l.filter (· != (a0, id)))) := by
  obtain ⟨t1, t2⟩ := h.less hu hx
  have hnd : t.Nodup := h.keys.imp (fun {p q} h e => h (by rw [e]))
  have her : t.erase (id, a0) = t.eraseIdx j := by
    rw [List.erase_eq_eraseIdx_of_idxOf rfl]
    congr 1
    have := hnd.idxOf_getElem j hj
    rw [hat] at this
    exact this
  rw [her] at t2
  have hp : (t.set j (id, a)).Perm ((id, a) :: t.eraseIdx j) := by
    rw [List.set_eq_take_append_cons_drop, if_pos hj, List.eraseIdx_eq_take_drop_succ]
    exact List.perm_middle
  refine ⟨?_, ?_, fun p hp2 => ?_⟩
  · refine ((hp.map fun p : Nat × Nat => (p.2, p.1)).trans ?_).trans (ins_perm (a, id) _).symm
    simp only [List.map_cons]
    exact t2.perm.cons _
  · have e : (t.set j (id, a)).map Prod.fst = t.map Prod.fst := by
      rw [List.map_set]
      apply List.ext_getElem?
      intro i
      rw [List.getElem?_set]
      by_cases e : j = i
      · subst e
        rw [if_pos rfl, List.length_map, if_pos hj, List.getElem?_map, List.getElem?_eq_getElem hj, hat]; rfl
      · rw [if_neg e]
    have h1 : (t.map Prod.fst).Pairwise (· ≠ ·) := List.pairwise_map.2 h.keys
    rw [← e] at h1
    exact List.pairwise_map.1 h1
  · rcases List.mem_or_eq_of_mem_set hp2 with e | e
    · exact h.small p e
    · have := h.small _ t1
      rw [e]; exact this
/-- The rest of Set, from any lists. -/
theorem set_rest2 (base : Nat) (w w2 : World) (b now : Nat) (l0 l : List ItemN) (O : Nat → Prop) (id a : Nat) (m2 : Value) (V : Nat → Value) (F : Nat → Nat) (L : Nat → List ItemN) (t : List (Nat × Nat)) (h : WT base w b now l0 O)
    (hw2 : Wh base w2 b now m2 V F L) (bits : Bits F L) (ok : Ok now l L) (hmax : ∀ p ∈ l, p.1 ≤ 1099511627776) (hl : l.length < 50000) (hx : (a, id) ∉ l) (ha : a ≤ 1099511627776) (tok : TOk t (ins (a, id) l)) (hm2 : TM base w2 m2 t) (kp2 : Kp O w w2) (hbw : base ≤ w.heap.size)
    (o1 : ∀ k, OwnL b V k → O k ∨ w.heap.size ≤ k) (o2 : ∀ mb, m2 = .map (some mb) → O mb ∨ w.heap.size ≤ mb) :
    Calls Tryz.prog 70 #[.pointer (some ⟨b, 0, none⟩), pairV (a, id)] w2 fun e w' => e = .returned (.tuple #[]) ∧ ∃ V', After base w O w' b now (ins (a, id) l) (OwnW b V' m2) := by
  refine (putIn_any base w2 b now m2 V F L (a, id) hw2 bits ha ok.up2 (fun c hc => Nat.le_trans (ok.len c) (by omega))).mono ?_
  rintro e w' ⟨he, V', F', st, bt⟩
  have hap := TM.apart hw2 hm2
  have own : ∀ k, OwnW b V' m2 k → O k ∨ w.heap.size ≤ k := fun k hk => by
    rcases hk with e | e
    · rcases st.own k e with g | g
      · exact o1 k g
      · have := kp2.size; exact .inr (by omega)
    · exact o2 k e
  have kp3 : Kp O w w' := kp2.trans st.kp o1
  have hlow : ∀ k, OwnW b V' m2 k → base ≤ k := fun k hk => by
    rcases own k hk with g | g
    · exact h.low k g
    · omega
  refine ⟨he, V', ⟨⟨m2, V', F', _, _, ⟨st.wh, bt, ok.putIn hx, fun p hp => ?_, by rw [ins_len]; omega⟩, hm2.kp st.kp hap, tok, fun k hk => .inl hk, fun mb e => .inr e⟩, h.bru.kp kp3 (fun x hx => Nat.lt_of_lt_of_le h.pos (h.low x hx)), hlow, h.pos, h.top⟩, kp3, own⟩
  rcases mem_ins.1 hp with e | e
  · rw [e]; exact ha
  · exact hmax p e
set_option maxHeartbeats 4000000 in
set_option maxRecDepth 100000 in
theorem set_old (base : Nat) (w : World) (b now : Nat) (l : List ItemN) (O : Nat → Prop) (a0 id a : Nat) (h : WT base w b now l O) (hp : (a0, id) ∈ l) (hid : id ≤ 1048576) (ha : a ≤ 1099511627776) (hl : l.length ≤ 1000) :
    Calls Tryz.prog 52 #[.pointer (some ⟨b, 0, none⟩), .int .i64 id, .int .i64 a] w fun e w' => e = .returned (.int .i64 0) ∧ ∃ O', After base w O w' b now (ins (a, id) (l.filter (· != (a0, id)))) O' := by
  obtain ⟨m, V, F, L, t, hS, tm, tok, o1, o2⟩ := h.ex
  have ct := Lib.hid (takeOut_any base w b now m V F L (a0, id) hS.wh hS.bits (hS.max _ hp) (hS.ok.mem.2 ⟨hp, rfl⟩) (fun c hc => Nat.le_trans (hS.ok.len c) (by have := hS.len; omega)))
  rcases tm with ⟨rfl, rfl⟩ | ⟨mb, rfl, hmb, im⟩
  · have := tok.there hp
    simp at this
  · have hlk := int_look_ok im tok.small tok.keys (tok.there hp)
    have hap := TM.apart hS.wh (.inr ⟨mb, rfl, hmb, im⟩ : TM base w (.map (some mb)) t) mb rfl
    have hni : (a, id) ∉ l.filter (· != (a0, id)) := fun e => by
      have hm := List.mem_filter.1 e
      have h1 := tok.there hm.1
      have h2 := tok.there hp
      by_cases ea : a = a0
      · subst ea
        simp at hm
      · obtain ⟨i, hi, ei⟩ := List.mem_iff_getElem.1 h1
        obtain ⟨i2, hi2, ei2⟩ := List.mem_iff_getElem.1 h2
        rcases Nat.lt_trichotomy i i2 with g | g | g
        · exact List.pairwise_iff_getElem.1 tok.keys i i2 hi hi2 g (by rw [ei, ei2])
        · subst g
          rw [ei] at ei2
          injection ei2 with _ e2
          exact ea e2
        · exact List.pairwise_iff_getElem.1 tok.keys i2 i hi2 hi g (by rw [ei, ei2])
    have hend : Hid (∀ w1 V1 F1, Step base w b V w1 now (.map (some mb)) V1 F1 (takeOutL now (a0, id) L) → Bits F1 (takeOutL now (a0, id) L) → w1.cell? ⟨b, 1, none⟩ = some (.map (some mb)) ∧ ∃ w2, (Instr.mapUpdate 109 (.map (some mb)) (.int .i64 (id : Int)) (.int .i64 (a : Int))).run Tryz.prog w1 = .ok () w2 ∧
        Hid (Calls Tryz.prog 70 #[.pointer (some ⟨b, 0, none⟩), pairV (a, id)] w2 fun e w' => e = .returned (.tuple #[]) ∧ ∃ V', After base w O w' b now (ins (a, id) (l.filter (· != (a0, id)))) (OwnW b V' (.map (some mb))))) := fun w1 V1 F1 st bt => by
      have im1 : IntMap w1 mb t := im.kept (st.kp.block mb im.lt hap)
      have hap1 := TM.apart st.wh (.inr ⟨mb, rfl, hmb, im1⟩ : TM base w1 (.map (some mb)) t) mb rfl
      obtain ⟨w2, j, hj, hat, r1, im2, gr2, sz2⟩ := int_update im1 tok.small tok.keys (tok.there hp) a
      have hw2 : Wh base w2 b now (.map (some mb)) V1 F1 (takeOutL now (a0, id) L) := st.wh.kept (by omega) (fun x hx => gr2.block x (st.wh.own_low hx).2 (fun e => by injection e with e; subst e; exact hap1 hx))
      have kp1 : Kp O w w1 := st.kp.mono (fun i hi => .inl (o1 i hi))
      have kp2 : Kp O w w2 := ⟨gr2.os.trans kp1.os, gr2.tape.trans kp1.tape, gr2.output.trans kp1.output, by have := kp1.size; omega, fun k hk hO => (gr2.block k (by have := kp1.size; omega) (fun e => by injection e with e; subst e; exact hO (o2 _ rfl))).trans (kp1.block k hk hO)⟩
      refine ⟨st.wh.times, w2, r1, ?_⟩
      exact set_rest2 base w w2 b now l _ O id a (.map (some mb)) V1 F1 _ _ h hw2 bt (hS.ok.takeOut (a0, id)) (fun p hp2 => hS.max p (List.mem_filter.1 hp2).1) (Nat.lt_of_le_of_lt (List.length_filter_le _ _) (by omega)) hni ha (tok.again hS.ok.up hp hj hat) (.inr ⟨mb, rfl, hmb, im2⟩) kp2 (by have := hS.wh.low; have := hS.wh.lt; omega)
        (fun k hk => by
          rcases st.own k hk with g | g
          · exact .inl (o1 k g)
          · exact .inr g) (fun mb e => .inl (o2 mb e))
    have hid2 : (id : Int) ≤ 1048576 := by omega
    have ha2 : (a : Int) ≤ 1099511627776 := by omega
    have c1 := hS.wh.times
    have hq : ∀ (W : World) (r : Option Nat), (binOp .eql 109 (.map r) (.map none)).run Tryz.prog W = .ok (.bool r.isNone) W := fun W r => run_eql_map_nil W 109 3 3 r map50
    have hbld : ∀ (x : Nat) W, (Instr.build 100 #[(0, .int .i64 (x : Int)), (1, .int .i64 (id : Int))]).run Tryz.prog W = .ok (.agg #[.int .i64 (x : Int), .int .i64 (id : Int)]) W := fun x W => by kernel_rfl
    have hb0 := hbld a0
    have hb1 := hbld a
    unfold pairV at ct hend
    clear h hS tok o1 o2 hp im hap hni hid ha hl hbld
    go_enter Tryz.func52, Tryz.ntmps52
    go_wp2_with fail
    refine ct.out.mono ?_
    rintro e w1 ⟨rfl, V1, F1, st, bt⟩
    obtain ⟨c2, w2, hup, cr⟩ := hend.out w1 V1 F1 st bt
    clear st bt hend ct c1
    go_wp2_with fail
    refine cr.out.mono ?_
    rintro e w8 ⟨rfl, V8, A8⟩
    replace A8 := Lib.hid A8
    go_wp2_with fail
    go_ret
    exact ⟨rfl, _, A8.out⟩
end Go.Proofs.YtoihekgmomjhpaaGreatDoor.W
