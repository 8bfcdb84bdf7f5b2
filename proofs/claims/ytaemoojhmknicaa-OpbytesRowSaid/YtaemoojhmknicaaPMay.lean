/-
  Layer 10: whether an operation may be (opbytes' and the document's), and the row of numbers as bytes. Condition: a row of at most 1000 numbers.
-/
import Derived.Test.YtaemoojhmknicaaPOp
import Derived.Test.YtaemoojhmknicaaPBuf
set_option linter.unusedVariables false
namespace Go.Proofs.Ytaemoojhmknicaa
open Go.RowKit Cod

set_option maxHeartbeats 1000000 in
set_option maxRecDepth 100000 in
theorem mayBe_any (o : OpN) (w : World) (hc : o.cron.size ≤ 100000) :
    Calls Try.prog 19 #[opV o] w fun e w' => e = .returned (.bool (okOp o)) ∧ Below w.heap.size w w' := by
  obtain ⟨k, c1, c2, c3, c4, c5, c6, c7, c8, s⟩ := o
  replace hc : s.size ≤ 100000 := hc
  by_cases h0 : 0 ≤ k
  · by_cases h3 : k ≤ 3
    · by_cases h6 : s.size ≤ 256
      · have e : Hid (okOp ⟨k, c1, c2, c3, c4, c5, c6, c7, c8, s⟩ = true) := (okOp_iff _).2 ⟨h0, h3, h6⟩
        have hd : Hid (decide ((s.size : Int) ≤ 256) = true) := decide_eq_true (by omega)
        go_enter Try.func19, Try.ntmps19
        go_wp2_with fail
        go_ret
        exact ⟨by rw [e.out]; show Ending.returned (Value.bool (decide ((s.size : Int) ≤ 256))) = _; rw [hd.out], (Below.refl _ _).alloc (Nat.le_refl _) _⟩
      · have e : Hid (okOp ⟨k, c1, c2, c3, c4, c5, c6, c7, c8, s⟩ = false) := Bool.eq_false_iff.2 fun h => h6 ((okOp_iff _).1 h).2.2
        have hd : Hid (decide ((s.size : Int) ≤ 256) = false) := decide_eq_false (by omega)
        go_enter Try.func19, Try.ntmps19
        go_wp2_with fail
        go_ret
        exact ⟨by rw [e.out]; show Ending.returned (Value.bool (decide ((s.size : Int) ≤ 256))) = _; rw [hd.out], (Below.refl _ _).alloc (Nat.le_refl _) _⟩
    · have e : Hid (okOp ⟨k, c1, c2, c3, c4, c5, c6, c7, c8, s⟩ = false) := Bool.eq_false_iff.2 fun h => h3 ((okOp_iff _).1 h).2.1
      go_enter Try.func19, Try.ntmps19
      go_wp2_with fail
      go_ret
      exact ⟨by rw [e.out]; rfl, (Below.refl _ _).alloc (Nat.le_refl _) _⟩
  · have e : Hid (okOp ⟨k, c1, c2, c3, c4, c5, c6, c7, c8, s⟩ = false) := Bool.eq_false_iff.2 fun h => h0 ((okOp_iff _).1 h).1
    go_enter Try.func19, Try.ntmps19
    go_wp2_with fail
    go_ret
    exact ⟨by rw [e.out]; rfl, (Below.refl _ _).alloc (Nat.le_refl _) _⟩

set_option maxHeartbeats 1000000 in
set_option maxRecDepth 100000 in
theorem may_any (o : OpN) (w : World) (hc : o.cron.size ≤ 100000) :
    Calls Try.prog 9 #[opV o] w fun e w' => e = .returned (.bool (okOp o)) ∧ Below w.heap.size w w' := by
  obtain ⟨k, c1, c2, c3, c4, c5, c6, c7, c8, s⟩ := o
  replace hc : s.size ≤ 100000 := hc
  by_cases h0 : 0 ≤ k
  · by_cases h3 : k ≤ 3
    · by_cases h6 : s.size ≤ 256
      · have e : Hid (okOp ⟨k, c1, c2, c3, c4, c5, c6, c7, c8, s⟩ = true) := (okOp_iff _).2 ⟨h0, h3, h6⟩
        have hd : Hid (decide ((s.size : Int) ≤ 256) = true) := decide_eq_true (by omega)
        go_enter Try.func9, Try.ntmps9
        go_wp2_with fail
        go_ret
        exact ⟨by rw [e.out]; show Ending.returned (Value.bool (decide ((s.size : Int) ≤ 256))) = _; rw [hd.out], (Below.refl _ _).alloc (Nat.le_refl _) _⟩
      · have e : Hid (okOp ⟨k, c1, c2, c3, c4, c5, c6, c7, c8, s⟩ = false) := Bool.eq_false_iff.2 fun h => h6 ((okOp_iff _).1 h).2.2
        have hd : Hid (decide ((s.size : Int) ≤ 256) = false) := decide_eq_false (by omega)
        go_enter Try.func9, Try.ntmps9
        go_wp2_with fail
        go_ret
        exact ⟨by rw [e.out]; show Ending.returned (Value.bool (decide ((s.size : Int) ≤ 256))) = _; rw [hd.out], (Below.refl _ _).alloc (Nat.le_refl _) _⟩
    · have e : Hid (okOp ⟨k, c1, c2, c3, c4, c5, c6, c7, c8, s⟩ = false) := Bool.eq_false_iff.2 fun h => h3 ((okOp_iff _).1 h).2.1
      go_enter Try.func9, Try.ntmps9
      go_wp2_with fail
      go_ret
      exact ⟨by rw [e.out]; rfl, (Below.refl _ _).alloc (Nat.le_refl _) _⟩
  · have e : Hid (okOp ⟨k, c1, c2, c3, c4, c5, c6, c7, c8, s⟩ = false) := Bool.eq_false_iff.2 fun h => h0 ((okOp_iff _).1 h).1
    go_enter Try.func9, Try.ntmps9
    go_wp2_with fail
    go_ret
    exact ⟨by rw [e.out]; rfl, (Below.refl _ _).alloc (Nat.le_refl _) _⟩

/-! ### A row of numbers as bytes -/
theorem buf_below {T e : TypeId} {B b : Nat} {p : Value} {bs : List Value} {w w' : World} (h : Lib.BuilderAt T e B b p bs w) (k : Below w.heap.size w w') : Lib.BuilderAt T e B b p bs w' := by
  have hlt := h.lt
  obtain ⟨hB, v, hb, hown, hne⟩ := h
  refine ⟨hB, v, (k.block b hlt).trans hb, hown.kept (row := none) ⟨k.os, k.tape, k.output, k.size, fun i hi _ => k.block i hi⟩ ?_, hne⟩
  cases v.ownBlock
  · exact Or.inl rfl
  · exact Or.inr (by simp)
theorem isBuf_below {T e : TypeId} {B b : Nat} {bs : List Value} {w w' : World} (h : Lib.IsBuilder T e B b bs w) (k : Below w.heap.size w w') : Lib.IsBuilder T e B b bs w' := h.imp (fun x => buf_below x k) (fun x => buf_below x k)
theorem isBuf_lt {T e : TypeId} {B b : Nat} {bs : List Value} {w : World} (h : Lib.IsBuilder T e B b bs w) : b < w.heap.size := h.elim Lib.BuilderAt.lt Lib.BuilderAt.lt
abbrev Buf (B b : Nat) (s : ByteArray) (w : World) : Prop := Lib.IsBuilder 68 5 B b (Lib.strCells s) w
theorem strCells_app (x y : ByteArray) : Lib.strCells x ++ Lib.strCells y = Lib.strCells (x ++ y) := by
  unfold Lib.strCells
  rw [ByteArray.data_append, Array.toList_append, List.map_append]

theorem bufWrite (B b : Nat) (x s : ByteArray) (w : World) (h : Buf B b x w) (hlen : x.size + s.size ≤ 140737488355328) (hBw : B ≤ w.heap.size) :
    Calls Try.prog 34 #[.pointer (some ⟨b, 0, none⟩), .string s] w fun e w' => e = .returned (.tuple #[.int .i64 s.size, .nilIface]) ∧ Buf B b (x ++ s) w' ∧ Below B w w' := by
  refine (write_any B b _ s w h (by rw [Lib.strCells_length]; exact hlen) hBw).mono ?_
  rintro e w' ⟨he, h1, k⟩
  refine ⟨he, Or.inr ?_, k⟩
  rw [strCells_app] at h1
  exact h1
theorem bufString (B b : Nat) (x : ByteArray) (w : World) (h : Buf B b x w) (hBw : B ≤ w.heap.size) :
    Calls Try.prog 36 #[.pointer (some ⟨b, 0, none⟩)] w fun e w' => e = .returned (.string x) ∧ Below B w w' :=
  (Try.Builder_String_any B b x.data.toList w h hBw).mono fun e w' ⟨he, k⟩ => ⟨he, k⟩

/-- A row of numbers in memory. -/
structure Row (w : World) (g : Nat) (l : List Int) : Prop where
  lt : g < w.heap.size
  cell : ∀ j x, l[j]? = some x → w.cell? ⟨g, j, none⟩ = some (.int .i64 x)
theorem Row.below {w w' : World} {g : Nat} {l : List Int} (h : Row w g l) (k : Below w.heap.size w w') : Row w' g l :=
  ⟨Nat.lt_of_lt_of_le h.lt k.size, fun j x hj => (World.cell?_of_block (k.block g h.lt)).trans (h.cell j x hj)⟩
theorem Row.at {w : World} {g : Nat} {l : List Int} (h : Row w g l) (j : Nat) (hj : j < l.length) : w.cell? ⟨g, j, none⟩ = some (.int .i64 l[j]) := h.cell j _ (by simp [hj])

set_option maxHeartbeats 1000000 in
set_option maxRecDepth 100000 in
theorem numbers_any (g : Nat) (l : List Int) (w : World) (hr : Row w g l) (hl : ∀ x ∈ l, i64 x) (hn : l.length ≤ 1000) :
    Calls Try.prog 22 #[.slice (some ⟨g, 0, none⟩) l.length l.length] w fun e w' => e = .returned (.string (numsB l)) ∧ Below w.heap.size w w' := by
  replace hl := Lib.hid hl
  replace hr := Lib.hid hr
  go_enter Try.func22, Try.ntmps22
  go_wp2_with fail
  have hb0 := Lib.hid (Lib.fresh_isBuilder 68 5 w)
  go_loopw [8] (fun i wr => ∃ k : Nat, k ≤ l.length ∧ i = .int .i64 k ∧ Hid (Buf w.heap.size w.heap.size (numsB (l.take k)) wr) ∧ Hid (Below w.heap.size w wr)) (fun i _ => l.length - (intOf i).toNat)
  case atStart => exact ⟨0, Nat.zero_le _, rfl, hb0, (Below.refl _ _).alloc (Nat.le_refl _) _⟩
  case round =>
    obtain ⟨k, hk, rfl, hb, kb⟩ := hrel
    clear hb0
    by_cases hlt : k < l.length
    · have hcell := (hr.out.below kb.out).at k hlt
      have hx := hl.out l[k] (List.getElem_mem hlt)
      have htk : Hid (numsB (l.take (k + 1)) = numsB (l.take k) ++ encB (zig l[k])) := by
        show _ = _
        rw [← numsB_one, ← numsB_append, List.take_succ_eq_append_getElem hlt]
      have hsz : Hid ((numsB (l.take k)).size ≤ 10000 ∧ (encB (zig l[k])).size ≤ 10) := by
        have h1 := numsB_size (l := l.take k) (fun x hx => hl.out x (List.mem_of_mem_take hx))
        have h2 := enc_size (zig_lt hx.1 hx.2)
        rw [List.length_take] at h1
        exact ⟨by omega, h2⟩
      have hlt2 : (k : Int) < l.length := by omega
      go_wp2_with fail
      refine (int_any l[k] _ hx.1 hx.2).mono ?_
      rintro e w1 ⟨rfl, b1⟩
      have hb1 := Lib.hid (isBuf_below hb.out b1)
      have kb1 := Lib.hid (kb.out.trans (b1.mono kb.out.size))
      clear hcell b1 hb kb
      go_wp2_with fail
      refine (bufWrite w.heap.size w.heap.size _ _ _ hb1.out (by have := hsz.out; omega) kb1.out.size).mono ?_
      rintro e w2 ⟨rfl, hb2, b2⟩
      rw [← htk.out] at hb2
      replace hb2 := Lib.hid hb2
      replace kb1 := Lib.hid (kb1.out.trans b2)
      clear hb1 b2
      go_wp2_with fail
      refine ⟨⟨k + 1, hlt, by go_num, hb2, kb1⟩, ?_⟩
      simp [intOf]; omega
    · obtain rfl : k = l.length := by omega
      have hlt2 : ¬ (l.length : Int) < l.length := by omega
      go_wp2_with fail
      refine (bufString w.heap.size w.heap.size _ _ hb.out kb.out.size).mono ?_
      rintro e w2 ⟨rfl, b2⟩
      replace kb := Lib.hid (kb.out.trans b2)
      go_wp2_with fail
      go_ret
      exact ⟨rfl, kb.out⟩
end Go.Proofs.Ytaemoojhmknicaa
