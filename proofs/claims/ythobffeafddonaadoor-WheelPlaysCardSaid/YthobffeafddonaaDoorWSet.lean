/-
  Layer 6: Set of one that isn't there, and of what isn't right.
-/
import Derived.Test.YthobffeafddonaaDoorWNew
set_option linter.unusedVariables false
namespace Go.Proofs.YthobffeafddonaaDoor
open Go.RowKit Whl

theorem Wh.setTimes {base : Nat} {w : World} {b now : Nat} {m : Value} {V : Nat → Value} {F : Nat → Nat} {L : Nat → List ItemN} (h : Wh base w b now m V F L) (m2 : Value) : Step base w b V (w.setCell ⟨b, 1, none⟩ m2) now m2 V F L := by
  have ho : ∀ k, k ≠ b → (w.setCell ⟨b, 1, none⟩ m2).heap[k]? = w.heap[k]? := fun k hk => heap_setCell_other _ _ _ _ hk
  have hc : ∀ d, d ≠ 1 → (w.setCell ⟨b, 1, none⟩ m2).cell? ⟨b, d, none⟩ = w.cell? ⟨b, d, none⟩ := fun d hd => World.cell?_setCell_other _ _ _ _ (by intro e; injection e with _ e2; exact hd e2.symm)
  refine ⟨⟨h.low, by simp [World.setCell]; exact h.lt, fun d => by rw [World.frozen?_setCell]; exact h.free d, (hc 0 (by omega)).trans h.now, World.cell?_setCell_same _ _ _ h.times, fun c hc2 => (hc c (by have := isL_big hc2; omega)).trans (h.slot c hc2), fun i hi => (hc _ (by omega)).trans (h.full i hi), fun c hc2 => ?_, h.apart, h.nb⟩, ⟨rfl, rfl, rfl, by simp [World.setCell], fun k _ hk => ho k (fun e => hk (.inl e))⟩, fun k hk => .inl hk⟩
  exact World.ownsRow.kept (h.row c hc2) (row := some b) ⟨rfl, rfl, rfl, by simp [World.setCell], fun k _ hk => ho k (fun e => hk (by rw [e]))⟩ (.inr (h.nb c hc2))

/-- The blocks of a wheel. -/
def OwnW (b : Nat) (V : Nat → Value) (m : Value) (k : Nat) : Prop := OwnL b V k ∨ m = .map (some k)

theorem TOk.len {t : List (Nat × Nat)} {l : List ItemN} (h : TOk t l) : t.length = l.length := by
  have := h.perm.length_eq
  simpa using this
theorem TOk.not {t : List (Nat × Nat)} {l : List ItemN} (h : TOk t l) {id : Nat} (hn : ∀ p, p ∈ l → p.2 ≠ id) : ∀ p ∈ t, p.1 ≠ id := fun p hp e => by
  have : (p.2, p.1) ∈ l := h.perm.mem_iff.1 (List.mem_map.2 ⟨p, hp, rfl⟩)
  exact hn _ this e
theorem TOk.add {t : List (Nat × Nat)} {l : List ItemN} (h : TOk t l) {id a : Nat} (hn : ∀ p, p ∈ l → p.2 ≠ id) (hid : id ≤ 1048576) : TOk (t ++ [(id, a)]) (ins (a, id) l) := by
  refine ⟨?_, ?_, fun p hp => ?_⟩
  · rw [List.map_append]
    refine (List.perm_append_comm.trans ?_).trans (ins_perm (a, id) l).symm
    exact h.perm.cons (a, id)
  · exact List.pairwise_append.2 ⟨h.keys, List.pairwise_singleton _ _, fun p hp q hq => by
      simp only [List.mem_singleton] at hq
      subst hq
      exact h.not hn p hp⟩
  · rcases List.mem_append.1 hp with e | e
    · exact h.small p e
    · simp only [List.mem_singleton] at e
      subst e
      exact hid

/-- What is to be shown behind the map was written: the rest of Set. -/
theorem set_rest (base : Nat) (w w2 : World) (b now : Nat) (l : List ItemN) (O : Nat → Prop) (id a : Nat) (m m2 : Value) (V : Nat → Value) (F : Nat → Nat) (L : Nat → List ItemN) (t : List (Nat × Nat)) (h : WT base w b now l O) (hS : WhlS base w b now m V F L l) (tok : TOk t l) (o1 : ∀ k, OwnL b V k → O k) (o2 : ∀ mb, m = .map (some mb) → O mb)
    (hn : ∀ p, p ∈ l → p.2 ≠ id) (hid : id ≤ 1048576) (ha : a ≤ 1099511627776) (hl : l.length < 1000)
    (hw2 : Wh base w2 b now m2 V F L) (hm2 : TM base w2 m2 (t ++ [(id, a)])) (kp2 : Kp O w w2) (hm3 : ∀ mb, m2 = .map (some mb) → m = .map (some mb) ∨ w.heap.size ≤ mb) :
    Calls Tryd.prog 25 #[.pointer (some ⟨b, 0, none⟩), pairV (a, id)] w2 fun e w' => e = .returned (.tuple #[]) ∧ ∃ V', After base w O w' b now (ins (a, id) l) (OwnW b V' m2) := by
  have hx : (a, id) ∉ l := fun e => hn _ e rfl
  refine (putIn_any base w2 b now m2 V F L (a, id) hw2 hS.bits ha hS.ok.up2 (fun c hc => Nat.le_trans (hS.ok.len c) (by have := hS.len; omega))).mono ?_
  rintro e w' ⟨he, V', F', st, bt⟩
  have hap := TM.apart hw2 hm2
  have own : ∀ k, OwnW b V' m2 k → O k ∨ w.heap.size ≤ k := fun k hk => by
    rcases hk with e | e
    · rcases st.own k e with g | g
      · exact .inl (o1 k g)
      · have := kp2.size; exact .inr (by omega)
    · rcases hm3 k e with g | g
      · exact .inl (o2 k g)
      · exact .inr g
  have kp3 : Kp O w w' := kp2.trans st.kp (fun i hi => .inl (o1 i hi))
  have hlow : ∀ k, OwnW b V' m2 k → base ≤ k := fun k hk => by
    rcases own k hk with g | g
    · exact h.low k g
    · have := hS.wh.low; have := hS.wh.lt; omega
  refine ⟨he, V', ⟨⟨m2, V', F', _, _, ⟨st.wh, bt, hS.ok.putIn hx, fun p hp => ?_, by rw [ins_len]; omega⟩, hm2.kp st.kp hap, tok.add hn hid, fun k hk => .inl hk, fun mb e => .inr e⟩, h.bru.kp kp3 (fun x hx => Nat.lt_of_lt_of_le h.pos (h.low x hx)), hlow, h.pos, h.top⟩, kp3, own⟩
  rcases mem_ins.1 hp with e | e
  · rw [e]; exact ha
  · exact hS.max p e

set_option maxHeartbeats 4000000 in
set_option maxRecDepth 100000 in
theorem set_new (base : Nat) (w : World) (b now : Nat) (l : List ItemN) (O : Nat → Prop) (id a : Nat) (h : WT base w b now l O) (hn : ∀ p, p ∈ l → p.2 ≠ id) (hid : id ≤ 1048576) (ha : a ≤ 1099511627776) (hl : l.length < 1000) :
    Calls Tryd.prog 11 #[.pointer (some ⟨b, 0, none⟩), .int .i64 id, .int .i64 a] w fun e w' => e = .returned (.int .i64 0) ∧ ∃ O', After base w O w' b now (ins (a, id) l) O' := by
  obtain ⟨m, V, F, L, t, hS, tm, tok, o1, o2⟩ := h.ex
  have hid2 : (id : Int) ≤ 1048576 := by omega
  have ha2 : (a : Int) ≤ 1099511627776 := by omega
  have c1 := hS.wh.times
  have g1 := hS.wh.free 1
  have hl2 : (t.length : Int) < 1000 := by rw [tok.len]; omega
  have hq : ∀ (W : World) (r : Option Nat), (binOp .eql 50 (.map r) (.map none)).run Tryd.prog W = .ok (.bool r.isNone) W := fun W r => run_eql_map_nil W 50 3 3 r map50
  have hbld : ∀ W, (Instr.build 52 #[(0, .int .i64 (a : Int)), (1, .int .i64 (id : Int))]).run Tryd.prog W = .ok (.agg #[.int .i64 (a : Int), .int .i64 (id : Int)]) W := fun W => by kernel_rfl
  rcases tm with ⟨rfl, rfl⟩ | ⟨mb, rfl, hmb, im⟩
  · -- the first one
    have k1 := (Below.refl w.heap.size w).alloc (Nat.le_refl _) (.map #[] 0)
    have hw1 := hS.wh.below k1
    have s1 := hw1.setTimes (.map (some w.heap.size))
    have im1 : IntMap ((w.alloc (.map #[] 0)).setCell ⟨b, 1, none⟩ (.map (some w.heap.size))) w.heap.size [] := (IntMap.made w).kept (heap_setCell_other _ _ _ _ (by have := hS.wh.lt; show w.heap.size ≠ b; omega))
    obtain ⟨w2, hrun, im2, gr2, sz2⟩ := int_insert im1 (fun p hp => by simp at hp) id a hid (fun p hp => by simp at hp)
    have hnb : ¬ OwnL b V w.heap.size := fun e => by have := (hS.wh.own_low e).2; omega
    have hw2 : Wh base w2 b now (.map (some w.heap.size)) V F L := s1.wh.kept (by omega) (fun x hx => gr2.block x (s1.wh.own_low hx).2 (fun e => by injection e with e; subst e; exact hnb hx))
    have kp2 : Kp O w w2 := by
      refine ⟨gr2.os.trans (s1.kp.os.trans k1.os), gr2.tape.trans (s1.kp.tape.trans k1.tape), gr2.output.trans (s1.kp.output.trans k1.output), by have := s1.kp.size; have := k1.size; omega, fun k hk hO => ?_⟩
      rw [gr2.block k (by have := s1.kp.size; have := k1.size; omega) (fun e => by injection e with e; omega), s1.kp.block k (by have := k1.size; omega) (fun e => hO (o1 k e))]
      exact k1.block k hk
    have cr := Lib.hid (set_rest base w w2 b now l O id a (.map none) (.map (some w.heap.size)) V F L [] h hS tok o1 o2 hn hid ha hl hw2 (.inr ⟨_, rfl, Nat.le_trans hS.wh.low (Nat.le_of_lt hS.wh.lt), im2⟩) kp2 (fun mb e => by injection e with e; injection e with e; exact .inr (by omega)))
    have hlk := int_look_nil w (id : Int) (by omega) (by omega)
    have c2 := s1.wh.times
    have c1' := hw1.times
    have g1' := hw1.free 1
    have hmk := make50
    unfold pairV at cr
    clear h hS tok o1 o2 hn hid ha hl k1 hw1 s1 im1 im2 gr2 sz2 hnb hw2 kp2
    go_enter Tryd.func11, Tryd.ntmps11
    go_wp2_with fail
    refine cr.out.mono ?_
    rintro e w8 ⟨rfl, V8, A8⟩
    go_wp2_with fail
    go_ret
    exact ⟨rfl, _, A8⟩
  · obtain ⟨w2, hrun, im2, gr2, sz2⟩ := int_insert im tok.small id a hid (tok.not hn)
    have hap := TM.apart hS.wh (.inr ⟨mb, rfl, hmb, im⟩ : TM base w (.map (some mb)) t) mb rfl
    have hw2 : Wh base w2 b now (.map (some mb)) V F L := hS.wh.kept (by omega) (fun x hx => gr2.block x (hS.wh.own_low hx).2 (fun e => by injection e with e; subst e; exact hap hx))
    have kp2 : Kp O w w2 := ⟨gr2.os, gr2.tape, gr2.output, by omega, fun k hk hO => gr2.block k hk (fun e => by injection e with e; subst e; exact hO (o2 _ rfl))⟩
    have cr := Lib.hid (set_rest base w w2 b now l O id a (.map (some mb)) (.map (some mb)) V F L t h hS tok o1 o2 hn hid ha hl hw2 (.inr ⟨_, rfl, hmb, im2⟩) kp2 (fun mb e => .inl e))
    have hlk := int_look_none im tok.small (id : Int) (by omega) (by omega) (fun p hp e => tok.not hn p hp (by omega))
    have hln := im.len 3
    unfold pairV at cr
    clear h hS tok o1 o2 hn hid ha hl im2 gr2 sz2 hap hw2 kp2 im
    generalize t.length = n at *
    go_enter Tryd.func11, Tryd.ntmps11
    go_wp2_with fail
    refine cr.out.mono ?_
    rintro e w8 ⟨rfl, V8, A8⟩
    go_wp2_with fail
    go_ret
    exact ⟨rfl, _, A8⟩

theorem set_arg (b : Nat) (id a : Int) (w : World) (h : id < 0) : Calls Tryd.prog 11 #[.pointer (some ⟨b, 0, none⟩), .int .i64 id, .int .i64 a] w fun e w' => e = .returned (.int .i64 1) ∧ w = w' := by
  have h2 : decide (id < 0) = true := decide_eq_true h
  go_enter Tryd.func11, Tryd.ntmps11
  go_wp2_with fail
  go_ret
  exact ⟨rfl, rfl⟩
theorem set_nil (id a : Int) (w : World) : Calls Tryd.prog 11 #[.pointer none, .int .i64 id, .int .i64 a] w fun e w' => e = .returned (.int .i64 12) ∧ w = w' := by
  go_enter Tryd.func11, Tryd.ntmps11
  go_wp2_with fail
  go_ret
  exact ⟨rfl, rfl⟩

theorem now_any (base : Nat) (w : World) (b now : Nat) (l : List ItemN) (O : Nat → Prop) (h : WT base w b now l O) : Calls Tryd.prog 21 #[.pointer (some ⟨b, 0, none⟩)] w fun e w' => e = .returned (.int .i64 now) ∧ w = w' := by
  obtain ⟨m, V, F, L, t, hS, tm, tok, o1, o2⟩ := h.ex
  have c0 := hS.wh.now
  clear h hS tm tok o1 o2
  go_enter Tryd.func21, Tryd.ntmps21
  go_wp2_with fail
  go_ret
  exact ⟨rfl, rfl⟩
theorem len_any (base : Nat) (w : World) (b now : Nat) (l : List ItemN) (O : Nat → Prop) (h : WT base w b now l O) : Calls Tryd.prog 22 #[.pointer (some ⟨b, 0, none⟩)] w fun e w' => e = .returned (.int .i64 l.length) ∧ w = w' := by
  obtain ⟨m, V, F, L, t, hS, tm, tok, o1, o2⟩ := h.ex
  have c1 := hS.wh.times
  rw [← tok.len]
  rcases tm with ⟨rfl, rfl⟩ | ⟨mb, rfl, hmb, im⟩
  · clear h hS tok o1 o2
    go_enter Tryd.func22, Tryd.ntmps22
    go_wp2_with fail
    go_ret
    exact ⟨rfl, rfl⟩
  · have hln := im.len 3
    clear h hS tok o1 o2 im
    generalize t.length = n at *
    go_enter Tryd.func22, Tryd.ntmps22
    go_wp2_with fail
    go_ret
    exact ⟨rfl, rfl⟩

theorem flat_of_row {base : Nat} {w : World} {l : List ItemN} {g cap : Nat} (h : Rw base w (.slice (some ⟨g, 0, none⟩) l.length cap) l) (k : Nat) (hk : k ≤ l.length) : ∀ j u, (flat (l.drop k))[j]? = some u → w.cell? ((⟨g, k * 2, none⟩ : Addr).add j) = some u := fun j u hu => by
  obtain ⟨cur, h1, h2, h3, h4, h5, h6⟩ := h.row
  rw [Addr.add_lit, cell_of_row w g _ cur 52 (0, 0) h2]
  rw [flat_drop l k hk, List.getElem?_drop, ← h6, List.getElem?_take] at hu
  split at hu
  · simpa using hu
  · cases hu
theorem flat_of_head {base : Nat} {w : World} {l : List ItemN} {g cap : Nat} (h : Rw base w (.slice (some ⟨g, 0, none⟩) l.length cap) l) (k : Nat) (hk : k ≤ l.length) : ∀ j u, (flat (l.take k))[j]? = some u → w.cell? ((⟨g, 0, none⟩ : Addr).add j) = some u := fun j u hu => by
  obtain ⟨cur, h1, h2, h3, h4, h5, h6⟩ := h.row
  rw [Addr.add_lit, cell_of_row w g _ cur 52 (0, 0) h2]
  rw [flat_take l k hk, List.getElem?_take, ← h6, List.getElem?_take] at hu
  split at hu
  · split at hu
    · simpa using hu
    · cases hu
  · cases hu

/-- Behind goOn. -/
theorem goOn_any (base : Nat) (w : World) (b now : Nat) (m : Value) (V : Nat → Value) (F : Nat → Nat) (L : Nat → List ItemN) (l : List ItemN) (h : WhlS base w b now m V F L l) (tb : Bru w) (hbase : 0 < base) (t : Int) (ht2 : t ≤ 1099511627776) :
    Calls Tryd.prog 27 #[.pointer (some ⟨b, 0, none⟩), .int .i64 t] w fun e w' => e = .returned (.tuple #[]) ∧ ∃ V' F' L', Step base w b V w' (max now t.toNat) m V' F' L' ∧ Bits F' L' ∧ Ok (max now t.toNat) l L' := by
  by_cases ht : t ≤ (now : Int)
  · refine (goOn_back base w b now m V F L h.wh t ht).mono ?_
    rintro e w' ⟨he, rfl⟩
    rw [show max now t.toNat = now by omega]
    exact ⟨he, V, F, L, ⟨h.wh, Kp.refl _ _, fun k hk => .inl hk⟩, h.bits, h.ok⟩
  · obtain ⟨tt, rfl⟩ : ∃ tt : Nat, t = (tt : Int) := ⟨t.toNat, by omega⟩
    rw [show max now (tt : Int).toNat = tt by omega]
    exact goOn_on base w b now m V F L l h tb hbase tt (by omega) ht2
end Go.Proofs.YthobffeafddonaaDoor
