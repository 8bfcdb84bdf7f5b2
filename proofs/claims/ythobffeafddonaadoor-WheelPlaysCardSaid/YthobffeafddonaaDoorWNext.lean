/-
  Layer 6: Next: the least time.
-/
import Derived.Test.YthobffeafddonaaDoorWRem
set_option linter.unusedVariables false
namespace Go.Proofs.YthobffeafddonaaDoor
open Go.RowKit Whl

theorem head_le {p : ItemN} {r : List ItemN} (h : Up (p :: r)) {q : ItemN} (hq : q ∈ p :: r) : p.1 ≤ q.1 := by
  rcases List.mem_cons.1 hq with e | e
  · rw [e]; exact Nat.le_refl _
  · have := h.head q e
    rw [ltB_iff] at this
    omega
theorem next_due {now : Nat} {p : ItemN} {r : List ItemN} {L : Nat → List ItemN} (h : Ok now (p :: r) L) (hne : L 2 ≠ []) : ∃ r', L 2 = p :: r' := by
  by_cases hp : p.1 ≤ now
  · exact ⟨r.filter fun p => decide (p.1 ≤ now), by rw [h.due, List.filter_cons_of_pos (by simpa using hp)]⟩
  · obtain ⟨q, hq⟩ := List.exists_mem_of_ne_nil _ hne
    rw [h.due] at hq
    obtain ⟨q1, q2⟩ := List.mem_filter.1 hq
    have := head_le h.up q1
    simp at q2
    omega
theorem next_late {now : Nat} {p : ItemN} {r : List ItemN} {L : Nat → List ItemN} (h : Ok now (p :: r) L) (he : L 2 = []) : now < p.1 := by
  refine Nat.lt_of_not_le fun hp => ?_
  have : p ∈ L 2 := by rw [h.due]; exact List.mem_filter.2 ⟨by simp, by simpa using hp⟩
  rw [he] at this
  simp at this
theorem next_slot {now : Nat} {p : ItemN} {r : List ItemN} {L : Nat → List ItemN} {i s : Nat} (h : Ok now (p :: r) L) (he : L 2 = []) (f : First L i s) : (minTo (L (4 + 65 * i + s)) (L (4 + 65 * i + s)).length).1 = p.1 := by
  have hn := next_late h he
  have hm := minTo_mem (L (4 + 65 * i + s)) (List.length_pos_iff.2 f.ne)
  have h1 := head_le h.up (h.mem.1 hm).1
  refine Nat.le_antisymm ?_ h1
  by_cases hp : place now p.1 = 4 + 65 * i + s
  · exact minTo_le _ (h.mem.2 ⟨by simp, hp⟩)
  · have := f.others h hm (q := p) (by simp) hn hp
    have := bg_le now p.1
    omega
theorem next_beyond {now : Nat} {p : ItemN} {r : List ItemN} {L : Nat → List ItemN} (h : Ok now (p :: r) L) (he : L 2 = []) (h6 : ∀ i s, i < 6 → s < 64 → L (4 + 65 * i + s) = []) : 0 < (L 393).length ∧ (minTo (L 393) (L 393).length).1 = p.1 := by
  have hp := (h.beyond h6 (q := p) (by simp) (next_late h he)).2
  have h0 : 0 < (L 393).length := List.length_pos_of_mem hp
  have hm := minTo_mem (L 393) h0
  exact ⟨h0, Nat.le_antisymm (minTo_le _ hp) (head_le h.up (h.mem.1 hm).1)⟩

set_option maxHeartbeats 4000000 in
set_option maxRecDepth 100000 in
theorem next_some (base : Nat) (w : World) (b now : Nat) (p : ItemN) (r : List ItemN) (O : Nat → Prop) (h : WT base w b now (p :: r) O) :
    Calls Tryd.prog 20 #[.pointer (some ⟨b, 0, none⟩)] w fun e w' => e = .returned (.tuple #[.int .i64 p.1, .bool true]) ∧ Below w.heap.size w w' := by
  obtain ⟨m, V, F, L, t, hS, tm, tok, o1, o2⟩ := h.ex
  have tb := Lib.hid h.bru
  have hlen : Hid (∀ c, (L c).length ≤ 1000000) := fun c => Nat.le_trans (hS.ok.len c) (by have := hS.len; omega)
  have c2 := hS.wh.slot 2 (.inl rfl)
  have R2 := hS.wh.row 2 (.inl rfl)
  clear h tm tok o1 o2
  by_cases hd : L 2 = []
  · obtain ⟨a2, cap2, hv2, _, _, _⟩ := R2.look
    rw [hd] at hv2
    rw [hv2] at c2
    simp only [List.length_nil] at c2
    have hS := Lib.hid hS
    have hd := Lib.hid hd
    clear R2 hv2
    go_enter Tryd.func20, Tryd.ntmps20
    go_wp2_with fail
    clear c2
    go_loopw [22] (fun v wr => ∃ i : Nat, v = .int .i64 i ∧ (i : Int) ≤ 6 ∧ Hid (∀ j, j < i → F j = 0) ∧ w = wr) (fun v _ => (6 - intOf v).toNat)
    case atStart => exact ⟨0, rfl, by omega, fun j hj => by omega, rfl⟩
    case round =>
      obtain ⟨i, rfl, hi, hlow, rfl⟩ := hrel
      by_cases hi6 : (i : Int) < 6
      · have hi7 : i < 6 := by omega
        have cf := hS.out.wh.full i hi7
        by_cases h0 : F i = 0
        · have c1 := Lib.hid (first_none b (3 + i * 65) w (by rw [cf, h0]; rfl))
          clear cf
          go_wp2_with fail
          refine c1.out.mono ?_
          rintro e w3 ⟨rfl, rfl⟩
          go_wp2_with fail
          exact ⟨⟨i + 1, by go_num, by omega, fun j hj => by
            rcases Nat.lt_or_ge j i with e | e
            · exact hlow.out j e
            · rw [show j = i by omega]; exact h0, by first | rfl | trivial⟩, by simp [intOf]; omega⟩
        · have c1 := Lib.hid (first_some b (3 + i * 65) (F i) w cf h0 (hS.out.bits i hi7).1 tb.out)
          have hf := Lib.hid (bits_first hS.out.bits hi7 h0 hlow.out)
          have hs := (zeros_first (F i) h0 (hS.out.bits i hi7).1).1
          generalize Lib.ctz 64 (F i) = s at *
          have hsi : (s : Int) < 64 := by omega
          have i3 : IsL (4 + 65 * i + s) := .inr (.inr ⟨i, s, hi7, hs, rfl⟩)
          have ec : 4 + 65 * i + s = 3 + i * 65 + 1 + s := by omega
          have cs := hS.out.wh.slot _ i3
          have cl := Lib.hid (least_any base (V (4 + 65 * i + s)) (L (4 + 65 * i + s)) w (hS.out.wh.row _ i3) (List.length_pos_iff.2 hf.out.ne) (hlen.out _))
          rw [next_slot hS.out.ok hd.out hf.out] at cl
          generalize V (4 + 65 * i + s) = vv at *
          rw [ec] at cs
          clear cf ec i3 h0
          go_wp2_with fail
          refine c1.out.mono ?_
          rintro e w3 ⟨rfl, rfl⟩
          go_wp2_with fail
          refine cl.out.mono ?_
          rintro e w4 ⟨rfl, k4⟩
          replace k4 := Lib.hid k4
          go_wp2_with fail
          go_ret2
          exact ⟨rfl, k4.out⟩
      · obtain ⟨h0, hm⟩ := next_beyond hS.out.ok hd.out (fun j s hj hs => bits_empty hS.out.bits hj (hlow.out j (by omega)) s hs)
        have i3 : IsL 393 := .inr (.inl rfl)
        have cs := hS.out.wh.slot 393 i3
        have cl := Lib.hid (least_any base (V 393) (L 393) w (hS.out.wh.row _ i3) h0 (hlen.out _))
        rw [hm] at cl
        obtain ⟨a3, cap3, hv3, _, _, _⟩ := (hS.out.wh.row 393 i3).look
        rw [hv3] at cs cl
        generalize (L 393).length = n3 at *
        have h03 : (0 : Int) < n3 := by omega
        clear hm h0 hv3
        go_wp2_with fail
        refine cl.out.mono ?_
        rintro e w4 ⟨rfl, k4⟩
        replace k4 := Lib.hid k4
        go_wp2_with fail
        go_ret2
        exact ⟨rfl, k4.out⟩
  · obtain ⟨r', hr'⟩ := next_due hS.ok hd
    rw [hr'] at R2
    obtain ⟨a2, cap2, hv2, _, _, ha2⟩ := R2.look
    obtain ⟨g, rfl⟩ := ha2 0 (by simp)
    rw [hv2] at c2 R2
    obtain ⟨d0, d1⟩ := R2.cells 0 (by simp)
    simp only [List.getElem_cons_zero, Nat.zero_mul, Nat.zero_add] at d0 d1
    generalize hn : (p :: r').length = n2 at *
    have hn0 : (0 : Int) < n2 := by rw [← hn]; simp
    clear hS tb hlen hd hr' R2 hv2 ha2 hn
    go_enter Tryd.func20, Tryd.ntmps20
    go_wp2_with fail
    go_ret2
    exact ⟨rfl, Below.refl _ _⟩
end Go.Proofs.YthobffeafddonaaDoor
