/-
  The document's Text (layer 4).
-/
import Derived.Test.YtfeljdbodamflaaDoorRight
namespace Go.Proofs.YtfeljdbodamflaaDoor
open Go.RowKit Crn

/-- The text of a spec's field. -/
def fieldT (x : SpecN) : Nat → Bytes
  | 0 => fieldText 0 x.min false
  | 1 => fieldText 1 x.hour false
  | 2 => fieldText 2 x.dom x.anyDom
  | 3 => fieldText 3 x.mon false
  | _ => fieldText 4 x.dow x.anyDow
/-- The first k fields' texts, with blanks between. -/
def headT (t : Nat → Bytes) : Nat → Bytes
  | 0 => []
  | 1 => t 0
  | k + 2 => headT t (k + 1) ++ 32 :: t (k + 1)
theorem headT_five (t : Nat → Bytes) : headT t 5 = join 32 [t 0, t 1, t 2, t 3, t 4] := by
  simp [headT, join]
theorem text_wrong {x : SpecN} (h : right x = false) : text x = [] := by unfold text; rw [h]; rfl
theorem text_none {x : SpecN} (h : right x = true) {k : Nat} (hk : k < 5) (ht : fieldT x k = []) : text x = [] := by
  unfold text
  rw [if_pos h]
  have : k = 0 ∨ k = 1 ∨ k = 2 ∨ k = 3 ∨ k = 4 := by omega
  rcases this with rfl | rfl | rfl | rfl | rfl <;> simp only [fieldT] at ht <;> simp [ht]
theorem text_all {x : SpecN} (h : right x = true) (ht : ∀ k, k < 5 → fieldT x k ≠ []) : text x = headT (fieldT x) 5 ++ aheadText x.ahead := by
  have h0 := ht 0 (by omega)
  have h1 := ht 1 (by omega)
  have h2 := ht 2 (by omega)
  have h3 := ht 3 (by omega)
  have h4 := ht 4 (by omega)
  rw [headT_five]
  unfold text
  rw [if_pos h]
  simp only [fieldT] at *
  simp [h0, h1, h2, h3, h4]
theorem any_len (f set : Nat) : (anyText f set).length ≤ 194 := by
  unfold anyText
  split
  · decide
  · split
    · have := list_len (2 ^ (‹Nat› % 64))
      simp
      omega
    · simp
theorem fieldT_len (x : SpecN) (k : Nat) : (fieldT x k).length ≤ 194 := by
  have hl : ∀ f set any, (fieldText f set any).length ≤ 194 := fun f set any => by
    unfold fieldText
    split
    · exact any_len f set
    · have := list_len set; omega
  unfold fieldT
  split <;> exact hl _ _ _
theorem headT_len (t : Nat → Bytes) (ht : ∀ k, (t k).length ≤ 194) (k : Nat) : (headT t k).length ≤ 195 * k := by
  match k with
  | 0 => simp [headT]
  | 1 => have := ht 0; simp only [headT]; omega
  | k + 2 =>
    have := headT_len t ht (k + 1)
    have := ht (k + 1)
    simp only [headT, List.length_append, List.length_cons]
    omega

/-- The sets' and the spec's cells that the loop reads. -/
structure Held (wr : World) (gs gx x0 x1 x2 x3 x4 : Nat) (x5 x6 : Bool) (x7 : Int) : Prop where
  c0 : wr.cell? ⟨gs, 0, none⟩ = some (.int .u64 x0)
  c1 : wr.cell? ⟨gs, 1, none⟩ = some (.int .u64 x1)
  c2 : wr.cell? ⟨gs, 2, none⟩ = some (.int .u64 x2)
  c3 : wr.cell? ⟨gs, 3, none⟩ = some (.int .u64 x3)
  c4 : wr.cell? ⟨gs, 4, none⟩ = some (.int .u64 x4)
  d5 : wr.cell? ⟨gx, 5, none⟩ = some (.bool x5)
  d6 : wr.cell? ⟨gx, 6, none⟩ = some (.bool x6)
  d7 : wr.cell? ⟨gx, 7, none⟩ = some (.int .i64 x7)
theorem Held.step {wr w' : World} {gs gx x0 x1 x2 x3 x4 : Nat} {x5 x6 : Bool} {x7 : Int} (h : Held wr gs gx x0 x1 x2 x3 x4 x5 x6 x7) (k : Below wr.heap.size wr w') : Held w' gs gx x0 x1 x2 x3 x4 x5 x6 x7 := by
  have h1 := World.block_lt_of_cell? wr _ h.c0
  have h2 := World.block_lt_of_cell? wr _ h.d5
  exact ⟨(k.cell (p := ⟨gs, 0, none⟩) h1).trans h.c0, (k.cell (p := ⟨gs, 1, none⟩) h1).trans h.c1, (k.cell (p := ⟨gs, 2, none⟩) h1).trans h.c2, (k.cell (p := ⟨gs, 3, none⟩) h1).trans h.c3, (k.cell (p := ⟨gs, 4, none⟩) h1).trans h.c4,
    (k.cell (p := ⟨gx, 5, none⟩) h2).trans h.d5, (k.cell (p := ⟨gx, 6, none⟩) h2).trans h.d6, (k.cell (p := ⟨gx, 7, none⟩) h2).trans h.d7⟩

set_option maxRecDepth 100000 in
set_option maxHeartbeats 2000000 in
theorem text_any (x : SpecN) (hx : Fits x) (w : World) :
    Calls Tryd.prog 16 #[specV x] w fun e w' => e = .returned (.string (bs (text x))) ∧ Below w.heap.size w w' := by
  have Cs := Lib.hid (fun W => sets_any x W)
  have Cr := Lib.hid (fun W => right_any x hx W)
  have t1 : Hid (right x = false → text x = []) := fun h => text_wrong h
  have t2 : Hid (right x = true → ∀ k, k < 5 → fieldT x k = [] → text x = []) := fun h k hk ht => text_none h hk ht
  have t3 : Hid (right x = true → (∀ k, k < 5 → fieldT x k ≠ []) → text x = headT (fieldT x) 5 ++ aheadText x.ahead) := fun h ht => text_all h ht
  have hbnd : Hid (right x = true → -899 ≤ x.ahead ∧ x.ahead ≤ 899) := fun h => (right_parts h).2.2.2.2.2
  have hfl := Lib.hid (fieldT_len x)
  have f0 : Hid (fieldT x 0 = list x.min) := rfl
  have f1 : Hid (fieldT x 1 = list x.hour) := rfl
  have f2 : Hid (fieldT x 2 = if x.anyDom then anyText 2 x.dom else list x.dom) := rfl
  have f3 : Hid (fieldT x 3 = list x.mon) := rfl
  have f4 : Hid (fieldT x 4 = if x.anyDow then anyText 4 x.dow else list x.dow) := rfl
  have cl0 := Lib.hid (fun W => list_any x.min W hx.min)
  have cl1 := Lib.hid (fun W => list_any x.hour W hx.hour)
  have cl2 := Lib.hid (fun W => list_any x.dom W hx.dom)
  have cl3 := Lib.hid (fun W => list_any x.mon W hx.mon)
  have cl4 := Lib.hid (fun W => list_any x.dow W hx.dow)
  have ca2 := Lib.hid (fun W => any_any 2 x.dom W (by omega) hx.dom)
  have ca4 := Lib.hid (fun W => any_any 4 x.dow W (by omega) hx.dow)
  generalize text x = res at *
  generalize right x = rt at *
  generalize fieldT x = t at *
  obtain ⟨x0, x1, x2, x3, x4, x5, x6, x7⟩ := x
  simp only [specV, cellsN] at *
  simp only [setsV] at Cs
  go_enter Tryd.func16, Tryd.ntmps16
  go_wp2_with fail
  refine (Cr.out _).mono ?_
  rintro e w1 ⟨rfl, k1⟩
  have q5 : w1.cell? ⟨w.heap.size, 5, none⟩ = some (.bool x5) := (k1.cell (p := ⟨w.heap.size, 5, none⟩) (by simp)).trans (by rw [World.cell?_alloc_new]; rfl)
  have q0 : w1.cell? ⟨w.heap.size, 0, none⟩ = some (.int .u64 x0) := (k1.cell (p := ⟨w.heap.size, 0, none⟩) (by simp)).trans (by rw [World.cell?_alloc_new]; rfl)
  have q1 : w1.cell? ⟨w.heap.size, 1, none⟩ = some (.int .u64 x1) := (k1.cell (p := ⟨w.heap.size, 1, none⟩) (by simp)).trans (by rw [World.cell?_alloc_new]; rfl)
  have q2 : w1.cell? ⟨w.heap.size, 2, none⟩ = some (.int .u64 x2) := (k1.cell (p := ⟨w.heap.size, 2, none⟩) (by simp)).trans (by rw [World.cell?_alloc_new]; rfl)
  have q3 : w1.cell? ⟨w.heap.size, 3, none⟩ = some (.int .u64 x3) := (k1.cell (p := ⟨w.heap.size, 3, none⟩) (by simp)).trans (by rw [World.cell?_alloc_new]; rfl)
  have q4 : w1.cell? ⟨w.heap.size, 4, none⟩ = some (.int .u64 x4) := (k1.cell (p := ⟨w.heap.size, 4, none⟩) (by simp)).trans (by rw [World.cell?_alloc_new]; rfl)
  have q6 : w1.cell? ⟨w.heap.size, 6, none⟩ = some (.bool x6) := (k1.cell (p := ⟨w.heap.size, 6, none⟩) (by simp)).trans (by rw [World.cell?_alloc_new]; rfl)
  have q7 : w1.cell? ⟨w.heap.size, 7, none⟩ = some (.int .i64 x7) := (k1.cell (p := ⟨w.heap.size, 7, none⟩) (by simp)).trans (by rw [World.cell?_alloc_new]; rfl)
  have hsz1 : w.heap.size + 1 ≤ w1.heap.size := by have := k1.size; simpa using this
  have b1 := Lib.hid (((Below.refl w.heap.size w).alloc (Nat.le_refl _) (.cells #[.int .u64 x0, .int .u64 x1, .int .u64 x2, .int .u64 x3, .int .u64 x4, .bool x5, .bool x6, .int .i64 x7] 25)).trans (k1.mono (by simp)))
  clear k1 Cr
  cases rt with
  | false =>
    have hres := Lib.hid (t1.out rfl)
    go_wp2_with fail
    go_ret
    exact ⟨by rw [hres.out]; rfl, b1.out⟩
  | true =>
    go_wp2_with fail
    refine (Cs.out _).mono ?_
    rintro e w2 ⟨rfl, k2⟩
    have r5 := (k2.cell (p := ⟨w.heap.size, 5, none⟩) (by show w.heap.size < _; omega)).trans q5
    have r6 := (k2.cell (p := ⟨w.heap.size, 6, none⟩) (by show w.heap.size < _; omega)).trans q6
    have r7 := (k2.cell (p := ⟨w.heap.size, 7, none⟩) (by show w.heap.size < _; omega)).trans q7
    have hsz2 : w.heap.size < w2.heap.size := Nat.lt_of_lt_of_le hsz1 k2.size
    have b2 := Lib.hid (b1.out.trans (k2.mono b1.out.size))
    have H3 : Hid (Held (w2.alloc (.cells #[.int .u64 x0, .int .u64 x1, .int .u64 x2, .int .u64 x3, .int .u64 x4] 48)) w2.heap.size w.heap.size x0 x1 x2 x3 x4 x5 x6 x7) := by
      refine ⟨?_, ?_, ?_, ?_, ?_, ?_, ?_, ?_⟩
      · rw [World.cell?_alloc_new]; rfl
      · rw [World.cell?_alloc_new]; rfl
      · rw [World.cell?_alloc_new]; rfl
      · rw [World.cell?_alloc_new]; rfl
      · rw [World.cell?_alloc_new]; rfl
      · rw [World.cell?_alloc_lt w2 _ ⟨w.heap.size, 5, none⟩ hsz2]; exact r5
      · rw [World.cell?_alloc_lt w2 _ ⟨w.heap.size, 6, none⟩ hsz2]; exact r6
      · rw [World.cell?_alloc_lt w2 _ ⟨w.heap.size, 7, none⟩ hsz2]; exact r7
    have b3 := Lib.hid (b2.out.alloc b2.out.size (.cells #[.int .u64 x0, .int .u64 x1, .int .u64 x2, .int .u64 x3, .int .u64 x4] 48))
    clear k2 Cs q0 q1 q2 q3 q4 q5 q6 q7 r5 r6 r7 b1 b2 t1
    go_wp2_with fail
    generalize w2.alloc (.cells #[.int .u64 x0, .int .u64 x1, .int .u64 x2, .int .u64 x3, .int .u64 x4] 48) = w3 at *
    generalize w2.heap.size = gs at *
    go_loopw [4, 5] (fun v i wr => ∃ k : Nat, k ≤ 5 ∧ i = .int .i64 k ∧ Hid (v = .string (bs (headT t k))) ∧ Hid (∀ j, j < k → t j ≠ []) ∧ Hid (Held wr gs w.heap.size x0 x1 x2 x3 x4 x5 x6 x7) ∧ Hid (Below w.heap.size w wr)) (fun _ i _ => 5 - (intOf i).toNat)
    case atStart => exact ⟨0, by omega, rfl, rfl, fun j hj => absurd hj (Nat.not_lt_zero _), H3, b3⟩
    case round =>
      obtain ⟨k, hk, rfl, hv, hnn, H, hbw⟩ := hrel
      have hv' := hv.out
      subst hv'
      clear H3 b3 hv
      by_cases hk5 : k < 5
      · have : k = 0 ∨ k = 1 ∨ k = 2 ∨ k = 3 ∨ k = 4 := by omega
        clear hk hk5
        rcases this with rfl | rfl | rfl | rfl | rfl
        · have hT := f0.out
          have hck := H.out.c0
          have hlenA : (bs (headT t 0)).size ≤ 975 := by rw [bs_size]; have := headT_len t hfl.out 0; omega
          have hlenT : (bs (t 0)).size ≤ 194 := by rw [bs_size]; exact hfl.out 0
          have hie : (bs (t 0)).toList.isEmpty = (t 0).isEmpty := by rw [ByteArray.toList_eq, bs_toList]
          have hnx : Hid (headT t 1 = t 0) := rfl
          have hcat : Hid (bs (headT t 0) ++ bs (t 0) = bs (headT t 1)) := by rw [bs_append, hnx.out]; exact rfl
          have hfa := Lib.hid (t2.out (by trivial) 0 (by omega))
          have cc := cl0
          rw [← hT] at cc
          have hte : Hid (t 0 = [] ↔ (t 0).isEmpty = true) := by cases t 0 <;> simp <;> exact trivial
          generalize hTT : bs (t 0) = TT at *
          generalize hAA : bs (headT t 0) = AA at *
          replace hTT := Lib.hid hTT
          replace hAA := Lib.hid hAA
          replace hT := Lib.hid hT
          cases hem : (t 0).isEmpty
          · rw [hem] at hie
            have hne : Hid (t 0 ≠ []) := fun e => by have := hte.out.1 e; rw [hem] at this; cases this
            clear hem hte hfa
            go_wp2_with fail
            refine (cc.out _).mono ?_
            rintro e w4 ⟨rfl, k4⟩
            have H4 := Lib.hid (H.out.step k4)
            have b4 := Lib.hid (hbw.out.trans (k4.mono hbw.out.size))
            clear k4 hck
            have hz : ¬ 9223372036854775807 < AA.size + TT.size := by omega
            go_wp2_with fail
            refine ⟨⟨1, by omega, by go_num, by rw [← hcat.out]; exact rfl, fun j hj => ?_, H4, b4⟩, by simp [intOf]⟩
            by_cases e : j = 0
            · subst e; exact hne.out
            · exact hnn.out j (by omega)
          · rw [hem] at hie
            have hres := Lib.hid (hfa.out (hte.out.2 hem))
            clear hem hte hfa
            go_wp2_with fail
            refine (cc.out _).mono ?_
            rintro e w4 ⟨rfl, k4⟩
            have H4 := Lib.hid (H.out.step k4)
            have b4 := Lib.hid (hbw.out.trans (k4.mono hbw.out.size))
            clear k4 hck
            go_wp2_with fail
            go_ret
            exact ⟨by rw [hres.out]; rfl, b4.out⟩
        · have hT := f1.out
          have hck := H.out.c1
          have hlenA : (bs (headT t 1)).size ≤ 975 := by rw [bs_size]; have := headT_len t hfl.out 1; omega
          have hlenT : (bs (t 1)).size ≤ 194 := by rw [bs_size]; exact hfl.out 1
          have hie : (bs (t 1)).toList.isEmpty = (t 1).isEmpty := by rw [ByteArray.toList_eq, bs_toList]
          have hnx : Hid (headT t 2 = headT t 1 ++ 32 :: t 1) := rfl
          have hcat : Hid (bs (headT t 1) ++ bs [32] ++ bs (t 1) = bs (headT t 2)) := by rw [bs_append, bs_append, hnx.out]; simp; exact trivial
          have hfa := Lib.hid (t2.out (by trivial) 1 (by omega))
          have cc := cl1
          rw [← hT] at cc
          have hte : Hid (t 1 = [] ↔ (t 1).isEmpty = true) := by cases t 1 <;> simp <;> exact trivial
          generalize hTT : bs (t 1) = TT at *
          generalize hAA : bs (headT t 1) = AA at *
          replace hTT := Lib.hid hTT
          replace hAA := Lib.hid hAA
          replace hT := Lib.hid hT
          cases hem : (t 1).isEmpty
          · rw [hem] at hie
            have hne : Hid (t 1 ≠ []) := fun e => by have := hte.out.1 e; rw [hem] at this; cases this
            clear hem hte hfa
            go_wp2_with fail
            refine (cc.out _).mono ?_
            rintro e w4 ⟨rfl, k4⟩
            have H4 := Lib.hid (H.out.step k4)
            have b4 := Lib.hid (hbw.out.trans (k4.mono hbw.out.size))
            clear k4 hck
            have hz0 : ¬ 9223372036854775807 < AA.size + (bs [32]).size := by rw [bs_size]; simp; omega
            have hz : ¬ 9223372036854775807 < (AA ++ bs [32]).size + TT.size := by rw [ByteArray.size_append, bs_size]; simp; omega
            go_wp2_with fail
            refine ⟨⟨2, by omega, by go_num, by rw [← hcat.out]; exact rfl, fun j hj => ?_, H4, b4⟩, by simp [intOf]⟩
            by_cases e : j = 1
            · subst e; exact hne.out
            · exact hnn.out j (by omega)
          · rw [hem] at hie
            have hres := Lib.hid (hfa.out (hte.out.2 hem))
            clear hem hte hfa
            go_wp2_with fail
            refine (cc.out _).mono ?_
            rintro e w4 ⟨rfl, k4⟩
            have H4 := Lib.hid (H.out.step k4)
            have b4 := Lib.hid (hbw.out.trans (k4.mono hbw.out.size))
            clear k4 hck
            go_wp2_with fail
            go_ret
            exact ⟨by rw [hres.out]; rfl, b4.out⟩
        · cases x5
          · have hT : t 2 = list x2 := by rw [f2.out]; rfl
            have hck := H.out.c2
            have hdk := H.out.d5
            have hlenA : (bs (headT t 2)).size ≤ 975 := by rw [bs_size]; have := headT_len t hfl.out 2; omega
            have hlenT : (bs (t 2)).size ≤ 194 := by rw [bs_size]; exact hfl.out 2
            have hie : (bs (t 2)).toList.isEmpty = (t 2).isEmpty := by rw [ByteArray.toList_eq, bs_toList]
            have hnx : Hid (headT t 3 = headT t 2 ++ 32 :: t 2) := rfl
            have hcat : Hid (bs (headT t 2) ++ bs [32] ++ bs (t 2) = bs (headT t 3)) := by rw [bs_append, bs_append, hnx.out]; simp; exact trivial
            have hfa := Lib.hid (t2.out (by trivial) 2 (by omega))
            have cc := cl2
            rw [← hT] at cc
            have hte : Hid (t 2 = [] ↔ (t 2).isEmpty = true) := by cases t 2 <;> simp <;> exact trivial
            generalize hTT : bs (t 2) = TT at *
            generalize hAA : bs (headT t 2) = AA at *
            replace hTT := Lib.hid hTT
            replace hAA := Lib.hid hAA
            replace hT := Lib.hid hT
            cases hem : (t 2).isEmpty
            · rw [hem] at hie
              have hne : Hid (t 2 ≠ []) := fun e => by have := hte.out.1 e; rw [hem] at this; cases this
              clear hem hte hfa
              go_wp2_with fail
              refine (cc.out _).mono ?_
              rintro e w4 ⟨rfl, k4⟩
              have H4 := Lib.hid (H.out.step k4)
              have b4 := Lib.hid (hbw.out.trans (k4.mono hbw.out.size))
              clear k4 hck hdk
              have hdk := H4.out.d5
              have hz0 : ¬ 9223372036854775807 < AA.size + (bs [32]).size := by rw [bs_size]; simp; omega
              have hz : ¬ 9223372036854775807 < (AA ++ bs [32]).size + TT.size := by rw [ByteArray.size_append, bs_size]; simp; omega
              go_wp2_with fail
              refine ⟨⟨3, by omega, by go_num, by rw [← hcat.out]; exact rfl, fun j hj => ?_, H4, b4⟩, by simp [intOf]⟩
              by_cases e : j = 2
              · subst e; exact hne.out
              · exact hnn.out j (by omega)
            · rw [hem] at hie
              have hres := Lib.hid (hfa.out (hte.out.2 hem))
              clear hem hte hfa
              go_wp2_with fail
              refine (cc.out _).mono ?_
              rintro e w4 ⟨rfl, k4⟩
              have H4 := Lib.hid (H.out.step k4)
              have b4 := Lib.hid (hbw.out.trans (k4.mono hbw.out.size))
              clear k4 hck hdk
              have hdk := H4.out.d5
              go_wp2_with fail
              go_ret
              exact ⟨by rw [hres.out]; rfl, b4.out⟩
          · have hT : t 2 = anyText 2 x2 := by rw [f2.out]; rfl
            have hck := H.out.c2
            have hdk := H.out.d5
            have hlenA : (bs (headT t 2)).size ≤ 975 := by rw [bs_size]; have := headT_len t hfl.out 2; omega
            have hlenT : (bs (t 2)).size ≤ 194 := by rw [bs_size]; exact hfl.out 2
            have hie : (bs (t 2)).toList.isEmpty = (t 2).isEmpty := by rw [ByteArray.toList_eq, bs_toList]
            have hnx : Hid (headT t 3 = headT t 2 ++ 32 :: t 2) := rfl
            have hcat : Hid (bs (headT t 2) ++ bs [32] ++ bs (t 2) = bs (headT t 3)) := by rw [bs_append, bs_append, hnx.out]; simp; exact trivial
            have hfa := Lib.hid (t2.out (by trivial) 2 (by omega))
            have cc := ca2
            rw [← hT] at cc
            have cl := cl2
            generalize bs (list x2) = L at cl
            have hte : Hid (t 2 = [] ↔ (t 2).isEmpty = true) := by cases t 2 <;> simp <;> exact trivial
            generalize hTT : bs (t 2) = TT at *
            generalize hAA : bs (headT t 2) = AA at *
            replace hTT := Lib.hid hTT
            replace hAA := Lib.hid hAA
            replace hT := Lib.hid hT
            cases hem : (t 2).isEmpty
            · rw [hem] at hie
              have hne : Hid (t 2 ≠ []) := fun e => by have := hte.out.1 e; rw [hem] at this; cases this
              clear hem hte hfa
              go_wp2_with fail
              refine (cl.out _).mono ?_
              rintro e w4 ⟨rfl, k4⟩
              have H4 := Lib.hid (H.out.step k4)
              have b4 := Lib.hid (hbw.out.trans (k4.mono hbw.out.size))
              clear k4 hck hdk
              have hdk := H4.out.d5
              have hck := H4.out.c2
              go_wp2_with fail
              refine (cc.out _).mono ?_
              rintro e w5 ⟨rfl, k5⟩
              have H5 := Lib.hid (H4.out.step k5)
              have b5 := Lib.hid (b4.out.trans (k5.mono b4.out.size))
              clear k5 hck hdk
              have hz0 : ¬ 9223372036854775807 < AA.size + (bs [32]).size := by rw [bs_size]; simp; omega
              have hz : ¬ 9223372036854775807 < (AA ++ bs [32]).size + TT.size := by rw [ByteArray.size_append, bs_size]; simp; omega
              go_wp2_with fail
              refine ⟨⟨3, by omega, by go_num, by rw [← hcat.out]; exact rfl, fun j hj => ?_, H5, b5⟩, by simp [intOf]⟩
              by_cases e : j = 2
              · subst e; exact hne.out
              · exact hnn.out j (by omega)
            · rw [hem] at hie
              have hres := Lib.hid (hfa.out (hte.out.2 hem))
              clear hem hte hfa
              go_wp2_with fail
              refine (cl.out _).mono ?_
              rintro e w4 ⟨rfl, k4⟩
              have H4 := Lib.hid (H.out.step k4)
              have b4 := Lib.hid (hbw.out.trans (k4.mono hbw.out.size))
              clear k4 hck hdk
              have hdk := H4.out.d5
              have hck := H4.out.c2
              go_wp2_with fail
              refine (cc.out _).mono ?_
              rintro e w5 ⟨rfl, k5⟩
              have H5 := Lib.hid (H4.out.step k5)
              have b5 := Lib.hid (b4.out.trans (k5.mono b4.out.size))
              clear k5 hck hdk
              go_wp2_with fail
              go_ret
              exact ⟨by rw [hres.out]; rfl, b5.out⟩
        · have hT := f3.out
          have hck := H.out.c3
          have hlenA : (bs (headT t 3)).size ≤ 975 := by rw [bs_size]; have := headT_len t hfl.out 3; omega
          have hlenT : (bs (t 3)).size ≤ 194 := by rw [bs_size]; exact hfl.out 3
          have hie : (bs (t 3)).toList.isEmpty = (t 3).isEmpty := by rw [ByteArray.toList_eq, bs_toList]
          have hnx : Hid (headT t 4 = headT t 3 ++ 32 :: t 3) := rfl
          have hcat : Hid (bs (headT t 3) ++ bs [32] ++ bs (t 3) = bs (headT t 4)) := by rw [bs_append, bs_append, hnx.out]; simp; exact trivial
          have hfa := Lib.hid (t2.out (by trivial) 3 (by omega))
          have cc := cl3
          rw [← hT] at cc
          have hte : Hid (t 3 = [] ↔ (t 3).isEmpty = true) := by cases t 3 <;> simp <;> exact trivial
          generalize hTT : bs (t 3) = TT at *
          generalize hAA : bs (headT t 3) = AA at *
          replace hTT := Lib.hid hTT
          replace hAA := Lib.hid hAA
          replace hT := Lib.hid hT
          cases hem : (t 3).isEmpty
          · rw [hem] at hie
            have hne : Hid (t 3 ≠ []) := fun e => by have := hte.out.1 e; rw [hem] at this; cases this
            clear hem hte hfa
            go_wp2_with fail
            refine (cc.out _).mono ?_
            rintro e w4 ⟨rfl, k4⟩
            have H4 := Lib.hid (H.out.step k4)
            have b4 := Lib.hid (hbw.out.trans (k4.mono hbw.out.size))
            clear k4 hck
            have hz0 : ¬ 9223372036854775807 < AA.size + (bs [32]).size := by rw [bs_size]; simp; omega
            have hz : ¬ 9223372036854775807 < (AA ++ bs [32]).size + TT.size := by rw [ByteArray.size_append, bs_size]; simp; omega
            go_wp2_with fail
            refine ⟨⟨4, by omega, by go_num, by rw [← hcat.out]; exact rfl, fun j hj => ?_, H4, b4⟩, by simp [intOf]⟩
            by_cases e : j = 3
            · subst e; exact hne.out
            · exact hnn.out j (by omega)
          · rw [hem] at hie
            have hres := Lib.hid (hfa.out (hte.out.2 hem))
            clear hem hte hfa
            go_wp2_with fail
            refine (cc.out _).mono ?_
            rintro e w4 ⟨rfl, k4⟩
            have H4 := Lib.hid (H.out.step k4)
            have b4 := Lib.hid (hbw.out.trans (k4.mono hbw.out.size))
            clear k4 hck
            go_wp2_with fail
            go_ret
            exact ⟨by rw [hres.out]; rfl, b4.out⟩
        · cases x6
          · have hT : t 4 = list x4 := by rw [f4.out]; rfl
            have hck := H.out.c4
            have hdk := H.out.d6
            have hlenA : (bs (headT t 4)).size ≤ 975 := by rw [bs_size]; have := headT_len t hfl.out 4; omega
            have hlenT : (bs (t 4)).size ≤ 194 := by rw [bs_size]; exact hfl.out 4
            have hie : (bs (t 4)).toList.isEmpty = (t 4).isEmpty := by rw [ByteArray.toList_eq, bs_toList]
            have hnx : Hid (headT t 5 = headT t 4 ++ 32 :: t 4) := rfl
            have hcat : Hid (bs (headT t 4) ++ bs [32] ++ bs (t 4) = bs (headT t 5)) := by rw [bs_append, bs_append, hnx.out]; simp; exact trivial
            have hfa := Lib.hid (t2.out (by trivial) 4 (by omega))
            have cc := cl4
            rw [← hT] at cc
            have hte : Hid (t 4 = [] ↔ (t 4).isEmpty = true) := by cases t 4 <;> simp <;> exact trivial
            generalize hTT : bs (t 4) = TT at *
            generalize hAA : bs (headT t 4) = AA at *
            replace hTT := Lib.hid hTT
            replace hAA := Lib.hid hAA
            replace hT := Lib.hid hT
            cases hem : (t 4).isEmpty
            · rw [hem] at hie
              have hne : Hid (t 4 ≠ []) := fun e => by have := hte.out.1 e; rw [hem] at this; cases this
              clear hem hte hfa
              go_wp2_with fail
              refine (cc.out _).mono ?_
              rintro e w4 ⟨rfl, k4⟩
              have H4 := Lib.hid (H.out.step k4)
              have b4 := Lib.hid (hbw.out.trans (k4.mono hbw.out.size))
              clear k4 hck hdk
              have hdk := H4.out.d6
              have hz0 : ¬ 9223372036854775807 < AA.size + (bs [32]).size := by rw [bs_size]; simp; omega
              have hz : ¬ 9223372036854775807 < (AA ++ bs [32]).size + TT.size := by rw [ByteArray.size_append, bs_size]; simp; omega
              go_wp2_with fail
              refine ⟨⟨5, by omega, by go_num, by rw [← hcat.out]; exact rfl, fun j hj => ?_, H4, b4⟩, by simp [intOf]⟩
              by_cases e : j = 4
              · subst e; exact hne.out
              · exact hnn.out j (by omega)
            · rw [hem] at hie
              have hres := Lib.hid (hfa.out (hte.out.2 hem))
              clear hem hte hfa
              go_wp2_with fail
              refine (cc.out _).mono ?_
              rintro e w4 ⟨rfl, k4⟩
              have H4 := Lib.hid (H.out.step k4)
              have b4 := Lib.hid (hbw.out.trans (k4.mono hbw.out.size))
              clear k4 hck hdk
              have hdk := H4.out.d6
              go_wp2_with fail
              go_ret
              exact ⟨by rw [hres.out]; rfl, b4.out⟩
          · have hT : t 4 = anyText 4 x4 := by rw [f4.out]; rfl
            have hck := H.out.c4
            have hdk := H.out.d6
            have hlenA : (bs (headT t 4)).size ≤ 975 := by rw [bs_size]; have := headT_len t hfl.out 4; omega
            have hlenT : (bs (t 4)).size ≤ 194 := by rw [bs_size]; exact hfl.out 4
            have hie : (bs (t 4)).toList.isEmpty = (t 4).isEmpty := by rw [ByteArray.toList_eq, bs_toList]
            have hnx : Hid (headT t 5 = headT t 4 ++ 32 :: t 4) := rfl
            have hcat : Hid (bs (headT t 4) ++ bs [32] ++ bs (t 4) = bs (headT t 5)) := by rw [bs_append, bs_append, hnx.out]; simp; exact trivial
            have hfa := Lib.hid (t2.out (by trivial) 4 (by omega))
            have cc := ca4
            rw [← hT] at cc
            have cl := cl4
            generalize bs (list x4) = L at cl
            have hte : Hid (t 4 = [] ↔ (t 4).isEmpty = true) := by cases t 4 <;> simp <;> exact trivial
            generalize hTT : bs (t 4) = TT at *
            generalize hAA : bs (headT t 4) = AA at *
            replace hTT := Lib.hid hTT
            replace hAA := Lib.hid hAA
            replace hT := Lib.hid hT
            cases hem : (t 4).isEmpty
            · rw [hem] at hie
              have hne : Hid (t 4 ≠ []) := fun e => by have := hte.out.1 e; rw [hem] at this; cases this
              clear hem hte hfa
              go_wp2_with fail
              refine (cl.out _).mono ?_
              rintro e w4 ⟨rfl, k4⟩
              have H4 := Lib.hid (H.out.step k4)
              have b4 := Lib.hid (hbw.out.trans (k4.mono hbw.out.size))
              clear k4 hck hdk
              have hdk := H4.out.d6
              have hck := H4.out.c4
              go_wp2_with fail
              refine (cc.out _).mono ?_
              rintro e w5 ⟨rfl, k5⟩
              have H5 := Lib.hid (H4.out.step k5)
              have b5 := Lib.hid (b4.out.trans (k5.mono b4.out.size))
              clear k5 hck hdk
              have hz0 : ¬ 9223372036854775807 < AA.size + (bs [32]).size := by rw [bs_size]; simp; omega
              have hz : ¬ 9223372036854775807 < (AA ++ bs [32]).size + TT.size := by rw [ByteArray.size_append, bs_size]; simp; omega
              go_wp2_with fail
              refine ⟨⟨5, by omega, by go_num, by rw [← hcat.out]; exact rfl, fun j hj => ?_, H5, b5⟩, by simp [intOf]⟩
              by_cases e : j = 4
              · subst e; exact hne.out
              · exact hnn.out j (by omega)
            · rw [hem] at hie
              have hres := Lib.hid (hfa.out (hte.out.2 hem))
              clear hem hte hfa
              go_wp2_with fail
              refine (cl.out _).mono ?_
              rintro e w4 ⟨rfl, k4⟩
              have H4 := Lib.hid (H.out.step k4)
              have b4 := Lib.hid (hbw.out.trans (k4.mono hbw.out.size))
              clear k4 hck hdk
              have hdk := H4.out.d6
              have hck := H4.out.c4
              go_wp2_with fail
              refine (cc.out _).mono ?_
              rintro e w5 ⟨rfl, k5⟩
              have H5 := Lib.hid (H4.out.step k5)
              have b5 := Lib.hid (b4.out.trans (k5.mono b4.out.size))
              clear k5 hck hdk
              go_wp2_with fail
              go_ret
              exact ⟨by rw [hres.out]; rfl, b5.out⟩
      · obtain rfl : k = 5 := by omega
        have h7 := H.out.d7
        have hbn := hbnd.out (by trivial)
        have hres := Lib.hid (t3.out (by trivial) hnn.out)
        have hlenA : (bs (headT t 5)).size ≤ 975 := by rw [bs_size]; have := headT_len t hfl.out 5; omega
        clear f0 f1 f2 f3 f4 cl0 cl1 cl2 cl3 cl4 ca2 ca4 t2 t3 hbnd
        rcases Int.lt_trichotomy x7 0 with hneg | hz7 | hpos
        · obtain ⟨n, rfl⟩ : ∃ n : Nat, x7 = -(n : Int) := ⟨(-x7).toNat, by omega⟩
          have hat : Hid (aheadText (-(n : Int)) = [32, 45] ++ two (n / 60) ++ two (n % 60)) := by
            unfold aheadText
            rw [if_neg (by omega), if_pos (by omega), show (-(-(n : Int))).toNat = n by omega]
            exact rfl
          have ct1 := Lib.hid (fun W => two_any (n / 60) W (by omega))
          have ct2 := Lib.hid (fun W => two_any (n % 60) W (by omega))
          have s1 : (bs (two (n / 60))).size = 2 := by rw [bs_size]; rfl
          have s2 : (bs (two (n % 60))).size = 2 := by rw [bs_size]; rfl
          have hcat : Hid (bs (headT t 5) ++ (bs [32, 45] ++ bs (two (n / 60)) ++ bs (two (n % 60))) = bs res) := by rw [hres.out, hat.out, bs_append, bs_append, bs_append]; exact rfl
          generalize bs (two (n / 60)) = T1 at *
          generalize bs (two (n % 60)) = T2 at *
          generalize bs (headT t 5) = AA at *
          clear hat hres
          go_wp2_with fail
          refine (ct1.out _).mono ?_
          rintro e w4 ⟨rfl, k4⟩
          have b4 := Lib.hid (hbw.out.trans (k4.mono hbw.out.size))
          clear k4
          have z1 : ¬ 9223372036854775807 < (bs [32, 45]).size + T1.size := by rw [bs_size]; simp; omega
          go_wp2_with fail
          refine (ct2.out _).mono ?_
          rintro e w5 ⟨rfl, k5⟩
          have b5 := Lib.hid (b4.out.trans (k5.mono b4.out.size))
          clear k5
          have z2 : ¬ 9223372036854775807 < (bs [32, 45] ++ T1).size + T2.size := by rw [ByteArray.size_append, bs_size]; simp; omega
          have z3 : ¬ 9223372036854775807 < AA.size + (bs [32, 45] ++ T1 ++ T2).size := by rw [ByteArray.size_append, ByteArray.size_append, bs_size]; simp; omega
          go_wp2_with fail
          go_ret
          exact ⟨by rw [← hcat.out]; rfl, b5.out⟩
        · subst hz7
          have hres2 : Hid (res = headT t 5) := by rw [hres.out]; exact List.append_nil _
          go_wp2_with fail
          go_ret
          exact ⟨by rw [hres2.out]; rfl, hbw.out⟩
        · obtain ⟨n, rfl⟩ : ∃ n : Nat, x7 = (n : Int) := ⟨x7.toNat, by omega⟩
          have hat : Hid (aheadText (n : Int) = [32, 43] ++ two (n / 60) ++ two (n % 60)) := by
            unfold aheadText
            rw [if_pos (by omega), Int.toNat_natCast]
            exact rfl
          have ct1 := Lib.hid (fun W => two_any (n / 60) W (by omega))
          have ct2 := Lib.hid (fun W => two_any (n % 60) W (by omega))
          have s1 : (bs (two (n / 60))).size = 2 := by rw [bs_size]; rfl
          have s2 : (bs (two (n % 60))).size = 2 := by rw [bs_size]; rfl
          have hcat : Hid (bs (headT t 5) ++ (bs [32, 43] ++ bs (two (n / 60)) ++ bs (two (n % 60))) = bs res) := by rw [hres.out, hat.out, bs_append, bs_append, bs_append]; exact rfl
          generalize bs (two (n / 60)) = T1 at *
          generalize bs (two (n % 60)) = T2 at *
          generalize bs (headT t 5) = AA at *
          clear hat hres
          go_wp2_with fail
          refine (ct1.out _).mono ?_
          rintro e w4 ⟨rfl, k4⟩
          have b4 := Lib.hid (hbw.out.trans (k4.mono hbw.out.size))
          clear k4
          have z1 : ¬ 9223372036854775807 < (bs [32, 43]).size + T1.size := by rw [bs_size]; simp; omega
          go_wp2_with fail
          refine (ct2.out _).mono ?_
          rintro e w5 ⟨rfl, k5⟩
          have b5 := Lib.hid (b4.out.trans (k5.mono b4.out.size))
          clear k5
          have z2 : ¬ 9223372036854775807 < (bs [32, 43] ++ T1).size + T2.size := by rw [ByteArray.size_append, bs_size]; simp; omega
          have z3 : ¬ 9223372036854775807 < AA.size + (bs [32, 43] ++ T1 ++ T2).size := by rw [ByteArray.size_append, ByteArray.size_append, bs_size]; simp; omega
          go_wp2_with fail
          go_ret
          exact ⟨by rw [← hcat.out]; rfl, b5.out⟩
end Go.Proofs.YtfeljdbodamflaaDoor
