/-
  Layer 6: a wheel as it lies in the world: its time, its lists, each in a block of its own, and the bits of its levels.
-/
import Derived.Test.YthobffeafddonaaDoorWLev
set_option linter.unusedVariables false
namespace Go.Proofs.YthobffeafddonaaDoor
open Go.RowKit Whl

/-- The cells that hold lists. -/
def IsL (c : Nat) : Prop := c = 2 ∨ c = 393 ∨ ∃ i s, i < 6 ∧ s < 64 ∧ c = 4 + 65 * i + s
theorem place_isL (now t : Nat) : IsL (place now t) := by
  rcases place_range now t with h | h | ⟨i, s, h1, h2, h3⟩
  · exact .inl h
  · exact .inr (.inl h)
  · exact .inr (.inr ⟨i, s, h1, h2, h3⟩)
theorem isL_big {c : Nat} (h : IsL c) : 2 ≤ c := by
  rcases h with h | h | ⟨i, s, h1, h2, h3⟩ <;> omega
theorem isL_full {c i : Nat} (h : IsL c) (hi : i < 6) : c ≠ 3 + i * 65 := by
  rcases h with h | h | ⟨j, s, h1, h2, h3⟩ <;> omega

/-- A wheel: its time, its map, its lists and their values, its levels' bits. -/
structure Wh (base : Nat) (w : World) (b : Nat) (now : Nat) (m : Value) (V : Nat → Value) (F : Nat → Nat) (L : Nat → List ItemN) : Prop where
  low : base ≤ b
  lt : b < w.heap.size
  free : ∀ d, w.frozen? ⟨b, d, none⟩ = false
  now : w.cell? ⟨b, 0, none⟩ = some (.int .i64 (now : Int))
  times : w.cell? ⟨b, 1, none⟩ = some m
  slot : ∀ c, IsL c → w.cell? ⟨b, c, none⟩ = some (V c)
  full : ∀ i, i < 6 → w.cell? ⟨b, 3 + i * 65, none⟩ = some (.int .u64 (F i : Int))
  row : ∀ c, IsL c → Rw base w (V c) (L c)
  apart : ∀ c d, IsL c → IsL d → c ≠ d → ∀ k, (V c).ownBlock = some k → (V d).ownBlock ≠ some k
  nb : ∀ c, IsL c → (V c).ownBlock ≠ some b
/-- The bits tell which slots aren't empty. -/
def Bits (F : Nat → Nat) (L : Nat → List ItemN) : Prop := ∀ i, i < 6 → F i < 18446744073709551616 ∧ ∀ s, s < 64 → (F i).testBit s = decide (L (4 + 65 * i + s) ≠ [])
/-- Its blocks, the map's aside. -/
def OwnL (b : Nat) (V : Nat → Value) (k : Nat) : Prop := k = b ∨ ∃ c, IsL c ∧ (V c).ownBlock = some k
/-- Of what was there only these blocks may have turned. -/
structure Kp (O : Nat → Prop) (w w' : World) : Prop where
  os : w'.os = w.os
  tape : w'.tape = w.tape
  output : w'.output = w.output
  size : w.heap.size ≤ w'.heap.size
  block : ∀ k, k < w.heap.size → ¬ O k → w'.heap[k]? = w.heap[k]?
theorem Kp.refl (O : Nat → Prop) (w : World) : Kp O w w := ⟨rfl, rfl, rfl, Nat.le_refl _, fun _ _ _ => rfl⟩
theorem Kp.trans {O O2 : Nat → Prop} {x y z : World} (h : Kp O x y) (k : Kp O2 y z) (ho : ∀ i, O2 i → O i ∨ x.heap.size ≤ i) : Kp O x z :=
  ⟨k.os.trans h.os, k.tape.trans h.tape, k.output.trans h.output, Nat.le_trans h.size k.size, fun i hi hn => (k.block i (Nat.lt_of_lt_of_le hi h.size) (fun e => by
    rcases ho i e with g | g
    · exact hn g
    · omega)).trans (h.block i hi hn)⟩
theorem Kp.mono {O O2 : Nat → Prop} {x y : World} (h : Kp O x y) (ho : ∀ i, O i → O2 i ∨ x.heap.size ≤ i) : Kp O2 x y :=
  ⟨h.os, h.tape, h.output, h.size, fun i hi hn => h.block i hi (fun e => by
    rcases ho i e with g | g
    · exact hn g
    · omega)⟩
theorem Kp.ofBelow {O : Nat → Prop} {w w' : World} (h : Below w.heap.size w w') : Kp O w w' := ⟨h.os, h.tape, h.output, h.size, fun k hk _ => h.block k hk⟩
theorem Kp.below {O : Nat → Prop} {B : Nat} {w w' : World} (h : Kp O w w') (hb : ∀ k, O k → B ≤ k) (hB : B ≤ w.heap.size) : Below B w w' :=
  ⟨h.os, h.tape, h.output, h.size, fun k hk => h.block k (by omega) fun e => by have := hb k e; omega⟩

theorem Wh.own_low {base : Nat} {w : World} {b now : Nat} {m : Value} {V : Nat → Value} {F : Nat → Nat} {L : Nat → List ItemN} (h : Wh base w b now m V F L) {k : Nat} (hk : OwnL b V k) : base ≤ k ∧ k < w.heap.size := by
  rcases hk with rfl | ⟨c, hc, e⟩
  · exact ⟨h.low, h.lt⟩
  · exact World.ownsRow.lt (h.row c hc) k e
/-- A world in which none of its blocks turned. -/
theorem Wh.kept {base : Nat} {w w' : World} {b now : Nat} {m : Value} {V : Nat → Value} {F : Nat → Nat} {L : Nat → List ItemN} (h : Wh base w b now m V F L) (hs : w.heap.size ≤ w'.heap.size) (k : ∀ x, OwnL b V x → w'.heap[x]? = w.heap[x]?) : Wh base w' b now m V F L := by
  have e := k b (.inl rfl)
  have ec : ∀ d, w'.cell? ⟨b, d, none⟩ = w.cell? ⟨b, d, none⟩ := fun d => World.cell?_of_block (w := w) (a := ⟨b, d, none⟩) e
  refine ⟨h.low, Nat.lt_of_lt_of_le h.lt hs, fun d => (World.frozen?_of_block (w := w) (a := ⟨b, d, none⟩) e).trans (h.free d), (ec _).trans h.now, (ec _).trans h.times, fun c hc => (ec c).trans (h.slot c hc), fun i hi => (ec _).trans (h.full i hi), fun c hc => ?_, h.apart, h.nb⟩
  obtain ⟨r1, r2⟩ := h.row c hc
  refine ⟨r1, ?_⟩
  rcases r2 with r2 | ⟨g, cap, cur, e1, e2, e3, e4⟩
  · exact .inl r2
  · exact .inr ⟨g, cap, cur, e1, e2, (k g (.inr ⟨c, hc, by rw [e1]; rfl⟩)).trans e3, e4⟩
theorem Wh.below {base : Nat} {w w' : World} {b now : Nat} {m : Value} {V : Nat → Value} {F : Nat → Nat} {L : Nat → List ItemN} (h : Wh base w b now m V F L) (k : Below w.heap.size w w') : Wh base w' b now m V F L :=
  h.kept k.size fun x hx => k.block x (h.own_low hx).2

def putV (V : Nat → Value) (c : Nat) (v : Value) : Nat → Value := fun k => if k = c then v else V k
theorem putV_same (V : Nat → Value) (c : Nat) (v : Value) : putV V c v c = v := by simp [putV]
theorem putV_other (V : Nat → Value) {c k : Nat} (v : Value) (h : k ≠ c) : putV V c v k = V k := by simp [putV, h]

/-- A wheel behind a step in which its lists turned. -/
structure Step (base : Nat) (w : World) (b : Nat) (V : Nat → Value) (w' : World) (now : Nat) (m : Value) (V' : Nat → Value) (F' : Nat → Nat) (L' : Nat → List ItemN) : Prop where
  wh : Wh base w' b now m V' F' L'
  kp : Kp (OwnL b V) w w'
  own : ∀ k, OwnL b V' k → OwnL b V k ∨ w.heap.size ≤ k
theorem Step.trans {base : Nat} {w w1 w2 : World} {b : Nat} {V V1 V2 : Nat → Value} {n1 n2 : Nat} {m1 m2 : Value} {F1 F2 : Nat → Nat} {L1 L2 : Nat → List ItemN} (h : Step base w b V w1 n1 m1 V1 F1 L1) (k : Step base w1 b V1 w2 n2 m2 V2 F2 L2) : Step base w b V w2 n2 m2 V2 F2 L2 :=
  ⟨k.wh, h.kp.trans k.kp h.own, fun x hx => by
    rcases k.own x hx with e | e
    · exact h.own x e
    · have := h.kp.size; exact .inr (by omega)⟩
theorem Step.below {base : Nat} {w w1 w2 : World} {b : Nat} {V V1 : Nat → Value} {n1 : Nat} {m1 : Value} {F1 : Nat → Nat} {L1 : Nat → List ItemN} (h : Step base w b V w1 n1 m1 V1 F1 L1) (k : Below w1.heap.size w1 w2) : Step base w b V w2 n1 m1 V1 F1 L1 :=
  ⟨h.wh.below k, h.kp.trans (Kp.ofBelow (O := OwnL b V1) k) h.own, h.own⟩
theorem Step.ahead {base : Nat} {w w1 w2 : World} {b : Nat} {V V1 : Nat → Value} {n1 : Nat} {m1 : Value} {F1 : Nat → Nat} {L1 : Nat → List ItemN} (k : Below w.heap.size w w1) (h : Step base w1 b V w2 n1 m1 V1 F1 L1) : Step base w b V w2 n1 m1 V1 F1 L1 :=
  ⟨h.wh, (Kp.ofBelow (O := OwnL b V) k).trans h.kp (fun i hi => .inl hi), fun x hx => by
    rcases h.own x hx with e | e
    · exact .inl e
    · have := k.size; exact .inr (by omega)⟩

/-- One of its lists turned. -/
theorem Wh.upd {base : Nat} {w w' : World} {b now : Nat} {m : Value} {V : Nat → Value} {F F' : Nat → Nat} {L : Nat → List ItemN} (h : Wh base w b now m V F L) {c : Nat} (hc : IsL c) {v' : Value} {l' : List ItemN} {f : Nat → Option Value}
    (u : Upd base b w (V c) w' v' l' f) (hfc : f c = some v') (hfo : ∀ d, d ≠ c → (d = 0 ∨ d = 1 ∨ IsL d) → f d = vw w b d) (hff : ∀ i, i < 6 → f (3 + i * 65) = some (.int .u64 (F' i : Int))) :
    Step base w b V w' now m (putV V c v') F' (put L c l') := by
  have hc2 := isL_big hc
  have hown : ∀ k, v'.ownBlock = some k → (V c).ownBlock = some k ∨ w.heap.size ≤ k := u.own
  refine ⟨⟨h.low, Nat.lt_of_lt_of_le h.lt u.size, fun d => u.free d (h.free d), ?_, ?_, fun d hd => ?_, fun i hi => (u.view _).trans (hff i hi), fun d hd => ?_, fun x y hx hy hne k hk => ?_, fun x hx => ?_⟩, ⟨u.os, u.tape, u.output, u.size, fun k hk hn => ?_⟩, fun k hk => ?_⟩
  · exact (u.view 0).trans ((hfo 0 (by omega) (.inl rfl)).trans h.now)
  · exact (u.view 1).trans ((hfo 1 (by omega) (.inr (.inl rfl))).trans h.times)
  · rw [u.view]
    by_cases e : d = c
    · subst e; rw [putV_same]; exact hfc
    · rw [putV_other _ _ e, hfo d e (.inr (.inr hd))]
      exact h.slot d hd
  · by_cases e : d = c
    · subst e; rw [putV_same, put_same]; exact u.row
    · rw [putV_other _ _ e, put_other _ _ _ e]
      obtain ⟨r1, r2⟩ := h.row d hd
      refine ⟨r1, ?_⟩
      rcases r2 with r2 | ⟨g, cap, cur, e1, e2, e3, e4⟩
      · exact .inl r2
      · refine .inr ⟨g, cap, cur, e1, e2, ?_, e4⟩
        have hg : (V d).ownBlock = some g := by rw [e1]; rfl
        rw [u.block g (Array.getElem?_eq_some_iff.1 e3).1 (fun eb => h.nb d hd (by rw [hg, eb])) (fun ec => h.apart d c hd hc e g hg ec)]
        exact e3
  · by_cases ex : x = c
    · subst ex
      rw [putV_same] at hk
      rw [putV_other _ _ (Ne.symm hne)]
      intro hk2
      rcases hown k hk with g | g
      · exact h.apart x y hx hy hne k g hk2
      · have := (World.ownsRow.lt (h.row y hy) k hk2).2; omega
    · rw [putV_other _ _ ex] at hk
      by_cases ey : y = c
      · subst ey
        rw [putV_same]
        intro hk2
        rcases hown k hk2 with g | g
        · exact h.apart x y hx hy hne k hk g
        · have := (World.ownsRow.lt (h.row x hx) k hk).2; omega
      · rw [putV_other _ _ ey]
        exact h.apart x y hx hy hne k hk
  · by_cases ex : x = c
    · subst ex; rw [putV_same]; exact u.nb
    · rw [putV_other _ _ ex]; exact h.nb x hx
  · exact u.block k hk (fun e => hn (.inl e)) (fun e => hn (.inr ⟨c, hc, e⟩))
  · rcases hk with e | ⟨d, hd, e⟩
    · exact .inl (.inl e)
    · by_cases ed : d = c
      · subst ed
        rw [putV_same] at e
        rcases hown k e with g | g
        · exact .inl (.inr ⟨d, hd, g⟩)
        · exact .inr g
      · rw [putV_other _ _ ed] at e
        exact .inl (.inr ⟨d, hd, e⟩)
end Go.Proofs.YthobffeafddonaaDoor
