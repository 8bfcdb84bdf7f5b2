/-
  The document's Parse (layer 4).
-/
import Derived.Test.YtiidhcpflplpiaaGreatDoorSix
import Derived.Test.YtiidhcpflplpiaaGreatDoorHas
import Derived.Laws.ResultCell
import Derived.Laws.Rows
import Derived.Deep.RegionHeld3
import Derived.Deep.DeepCutAuto
namespace Go.Proofs.YtiidhcpflplpiaaGreatDoor
open Go.RowKit Crn

/-- What Parse answers. -/
def answerP (r : Option SpecN) : Ending := .returned (.tuple #[specV (r.getD zero), .bool r.isSome])

/-- The cells of the spec that says nothing. -/
def zeros : List Value := [.int .u64 0, .int .u64 0, .int .u64 0, .int .u64 0, .int .u64 0, .bool false, .bool false, .int .i64 0]

/-- The answer's block and that of 'bad', as they were laid. -/
structure Laid (w wr : World) : Prop where
  r : wr.heap[w.heap.size]? = some (.cells #[.int .u64 0, .int .u64 0, .int .u64 0, .int .u64 0, .int .u64 0, .bool false, .bool false, .int .i64 0] 64)
  b : wr.heap[w.heap.size + 1]? = some (.cells #[.int .u64 0, .int .u64 0, .int .u64 0, .int .u64 0, .int .u64 0, .bool false, .bool false, .int .i64 0] 64)
  size : w.heap.size + 2 ≤ wr.heap.size
  below : Below w.heap.size w wr

theorem Laid.start (w : World) : Laid w ((w.alloc (.cells #[.int .u64 0, .int .u64 0, .int .u64 0, .int .u64 0, .int .u64 0, .bool false, .bool false, .int .i64 0] 64)).alloc (.cells #[.int .u64 0, .int .u64 0, .int .u64 0, .int .u64 0, .int .u64 0, .bool false, .bool false, .int .i64 0] 64)) := by
  refine ⟨?_, ?_, by simp, ((Below.refl _ _).alloc (Nat.le_refl _) _).alloc (by simp) _⟩
  · rw [Below.heap_alloc _ _ _ (by simp)]
    exact Go.heap_alloc_new w _
  · have h := Go.heap_alloc_new (w.alloc (.cells #[.int .u64 0, .int .u64 0, .int .u64 0, .int .u64 0, .int .u64 0, .bool false, .bool false, .int .i64 0] 64)) (.cells #[.int .u64 0, .int .u64 0, .int .u64 0, .int .u64 0, .int .u64 0, .bool false, .bool false, .int .i64 0] 64)
    simpa using h
theorem Laid.step {w wr w2 : World} (h : Laid w wr) {B : Nat} (hB : w.heap.size + 2 ≤ B) (k : Below B wr w2) : Laid w w2 :=
  ⟨(k.block _ (by omega)).trans h.r, (k.block _ (by omega)).trans h.b, Nat.le_trans h.size k.size, h.below.trans (k.mono (by omega))⟩
theorem Laid.setCell {w wr : World} (h : Laid w wr) {a : Addr} (ha : w.heap.size + 2 ≤ a.block) (v : Value) : Laid w (wr.setCell a v) :=
  h.step (B := w.heap.size + 2) (Nat.le_refl _) ((Below.refl _ _).setCell ha v)

theorem Laid.facts {w wr : World} (h : Laid w wr) : wr.cell? ⟨w.heap.size + 1, 0, none⟩ = some (.int .u64 0) ∧ wr.cell? ⟨w.heap.size + 1, 1, none⟩ = some (.int .u64 0) ∧ wr.cell? ⟨w.heap.size + 1, 2, none⟩ = some (.int .u64 0) ∧ wr.cell? ⟨w.heap.size + 1, 3, none⟩ = some (.int .u64 0) ∧ wr.cell? ⟨w.heap.size + 1, 4, none⟩ = some (.int .u64 0) ∧ wr.cell? ⟨w.heap.size + 1, 5, none⟩ = some (.bool false) ∧ wr.cell? ⟨w.heap.size + 1, 6, none⟩ = some (.bool false) ∧ wr.cell? ⟨w.heap.size + 1, 7, none⟩ = some (.int .i64 0) ∧ wr.cell? ⟨w.heap.size, 0, none⟩ = some (.int .u64 0) ∧ wr.cell? ⟨w.heap.size, 1, none⟩ = some (.int .u64 0) ∧ wr.cell? ⟨w.heap.size, 2, none⟩ = some (.int .u64 0) ∧ wr.cell? ⟨w.heap.size, 3, none⟩ = some (.int .u64 0) ∧ wr.cell? ⟨w.heap.size, 4, none⟩ = some (.int .u64 0) ∧ wr.cell? ⟨w.heap.size, 5, none⟩ = some (.bool false) ∧ wr.cell? ⟨w.heap.size, 6, none⟩ = some (.bool false) ∧ wr.cell? ⟨w.heap.size, 7, none⟩ = some (.int .i64 0) ∧ wr.frozen? ⟨w.heap.size, 0, none⟩ = false ∧ wr.frozen? ⟨w.heap.size, 1, none⟩ = false ∧ wr.frozen? ⟨w.heap.size, 2, none⟩ = false ∧ wr.frozen? ⟨w.heap.size, 3, none⟩ = false ∧ wr.frozen? ⟨w.heap.size, 4, none⟩ = false ∧ wr.frozen? ⟨w.heap.size, 5, none⟩ = false ∧ wr.frozen? ⟨w.heap.size, 6, none⟩ = false ∧ wr.frozen? ⟨w.heap.size, 7, none⟩ = false := by
  refine ⟨?_, ?_, ?_, ?_, ?_, ?_, ?_, ?_, ?_, ?_, ?_, ?_, ?_, ?_, ?_, ?_, ?_, ?_, ?_, ?_, ?_, ?_, ?_, ?_⟩
  · simp [World.cell?, h.b]
  · simp [World.cell?, h.b]
  · simp [World.cell?, h.b]
  · simp [World.cell?, h.b]
  · simp [World.cell?, h.b]
  · simp [World.cell?, h.b]
  · simp [World.cell?, h.b]
  · simp [World.cell?, h.b]
  · simp [World.cell?, h.r]
  · simp [World.cell?, h.r]
  · simp [World.cell?, h.r]
  · simp [World.cell?, h.r]
  · simp [World.cell?, h.r]
  · simp [World.cell?, h.r]
  · simp [World.cell?, h.r]
  · simp [World.cell?, h.r]
  · simp [World.frozen?, h.r]
  · simp [World.frozen?, h.r]
  · simp [World.frozen?, h.r]
  · simp [World.frozen?, h.r]
  · simp [World.frozen?, h.r]
  · simp [World.frozen?, h.r]
  · simp [World.frozen?, h.r]
  · simp [World.frozen?, h.r]

theorem below_eight {w wr : World} (h : Below w.heap.size w wr) (v0 v1 v2 v3 v4 v5 v6 v7 : Value) :
    Below w.heap.size w ((((((((wr.setCell ⟨w.heap.size, 0, none⟩ v0).setCell ⟨w.heap.size, 1, none⟩ v1).setCell ⟨w.heap.size, 2, none⟩ v2).setCell ⟨w.heap.size, 3, none⟩ v3).setCell ⟨w.heap.size, 4, none⟩ v4).setCell ⟨w.heap.size, 5, none⟩ v5).setCell ⟨w.heap.size, 6, none⟩ v6).setCell ⟨w.heap.size, 7, none⟩ v7) :=
  (((((((h.setCell (Nat.le_refl _) _).setCell (Nat.le_refl _) _).setCell (Nat.le_refl _) _).setCell (Nat.le_refl _) _).setCell (Nat.le_refl _) _).setCell (Nat.le_refl _) _).setCell (Nat.le_refl _) _).setCell (Nat.le_refl _) _

theorem splitP_len {p : UInt8 → Bool} {l q : Bytes} (h : q ∈ splitP p l) : q.length ≤ l.length := by
  induction l generalizing q with
  | nil => simp [splitP] at h; subst h; simp
  | cons x l ih =>
    cases hx : p x
    · rw [splitP_no hx] at h
      cases hs : splitP p l with
      | nil => exact absurd hs (splitP_ne _ _)
      | cons y t =>
        rw [hs] at h ih
        simp only [onto, List.mem_cons] at h
        rcases h with rfl | h
        · have := ih (q := y) (by simp); simp; omega
        · have := ih (q := q) (by simp [h]); simp; omega
    · rw [splitP_yes hx] at h
      rcases List.mem_cons.1 h with rfl | h
      · simp
      · have := ih h; simp; omega
theorem words_len {s q : Bytes} (h : q ∈ words s) : q.length ≤ s.length := splitP_len (List.mem_filter.1 h).1

def tb (b : UInt8) : UInt8 := if b = 9 then 32 else b

/-- What the fields of a text say. -/
def ofWords : List Bytes → Option SpecN
  | [a, b, c, d, e] => five a b c d e 0
  | [a, b, c, d, e, z] => match aheadN z with
    | some n => five a b c d e n
    | none => none
  | _ => none
theorem parse_words {s : Bytes} (h : ¬ 256 < s.length) (pre : List Bytes) (hp : words s = pre) : parse s = ofWords pre := by
  subst hp
  unfold parse
  rw [if_neg h]
  rfl

theorem ofWords_none {pre : List Bytes} (h1 : 5 ≤ pre.length) (h2 : pre.length ≤ 6) {k : Nat} (hk : k < 5) (h : field k (pre[k]'(by omega)) = none) : ofWords pre = none := by
  have key : ∀ (a b c d e : Bytes) (n : Int), field k ([a, b, c, d, e][k]'(by simpa using hk)) = none → five a b c d e n = none := by
    intro a b c d e n hf
    unfold five
    have : k = 0 ∨ k = 1 ∨ k = 2 ∨ k = 3 ∨ k = 4 := by omega
    rcases this with rfl | rfl | rfl | rfl | rfl
    · rw [show field 0 a = none from hf]
    · rw [show field 1 b = none from hf]; cases field 0 a <;> rfl
    · rw [show field 2 c = none from hf]; cases field 0 a <;> cases field 1 b <;> rfl
    · rw [show field 3 d = none from hf]; cases field 0 a <;> cases field 1 b <;> cases field 2 c <;> rfl
    · rw [show field 4 e = none from hf]; cases field 0 a <;> cases field 1 b <;> cases field 2 c <;> cases field 3 d <;> rfl
  match pre, h1, h2 with
  | [a, b, c, d, e], _, _ => exact key a b c d e 0 h
  | [a, b, c, d, e, z], _, _ =>
    have h' : field k ([a, b, c, d, e][k]'(by simpa using hk)) = none := by
      have : k = 0 ∨ k = 1 ∨ k = 2 ∨ k = 3 ∨ k = 4 := by omega
      rcases this with rfl | rfl | rfl | rfl | rfl <;> exact h
    show (match aheadN z with | some n => five a b c d e n | none => none) = none
    cases aheadN z with
    | none => rfl
    | some n => exact key a b c d e n h'
theorem ofWords_five {pre : List Bytes} (h : pre.length = 5) : ofWords pre = five pre[0] pre[1] pre[2] pre[3] pre[4] 0 := by
  match pre, h with
  | [_, _, _, _, _], _ => rfl
theorem ofWords_six {pre : List Bytes} (h : pre.length = 6) : ofWords pre = (aheadN pre[5]).bind fun n => five pre[0] pre[1] pre[2] pre[3] pre[4] n := by
  match pre, h with
  | [a, b, c, d, e, z], _ =>
    show (match aheadN z with | some n => five a b c d e n | none => none) = _
    simp only [List.getElem_cons_succ, List.getElem_cons_zero]
    cases aheadN z <;> rfl
theorem head_byte {x : Bytes} (h : x ≠ []) : ∃ hz : 0 < (bs x).size, (((bs x)[0].toNat : Int) == 42) = (x.head? == some 42) := by
  cases x with
  | nil => exact absurd rfl h
  | cons a x =>
    refine ⟨by rw [bs_size]; simp, ?_⟩
    have e : (bs (a :: x))[0]'(by rw [bs_size]; simp) = a := rfl
    rw [e, List.head?_cons, Bool.eq_iff_iff]
    simp only [beq_iff_eq, Option.some.injEq]
    constructor
    · intro h
      exact UInt8.toNat_inj.1 (by simp; omega)
    · rintro rfl
      rfl
theorem field_lt {f n : Nat} (hf : f < 5) {s : Bytes} (h : field f s = some n) : n < 18446744073709551616 := by
  have hs := (okSet_iff.1 (field_ok hf h)).2
  have h1 : n ≤ every f 1 := by rw [← hs]; exact Nat.and_le_right
  have h2 := every_lt f hf
  have h3 : (2 : Nat) ^ 64 = 18446744073709551616 := by decide
  omega

set_option maxRecDepth 100000 in
set_option maxHeartbeats 4000000 in
theorem parse_any (s : ByteArray) (w : World) (hs : ¬ 256 < s.size) :
    Calls Tryz.prog 25 #[.string s] w fun e w' => e = answerP (parse s.data.toList) ∧ Below w.heap.size w w' := by
  have hpar := Lib.hid (parse_words (s := s.data.toList) (by simpa using hs))
  generalize parse s.data.toList = res at *
  obtain ⟨i0, hi, hz0, hz1, hz2⟩ := info_parts Tryz.info9
  obtain ⟨cap, w5, hcv, b5, f5⟩ := bytes_of ((w.alloc (.cells #[.int .u64 0, .int .u64 0, .int .u64 0, .int .u64 0, .int .u64 0, .bool false, .bool false, .int .i64 0] 64)).alloc (.cells #[.int .u64 0, .int .u64 0, .int .u64 0, .int .u64 0, .int .u64 0, .bool false, .bool false, .int .i64 0] 64)) s
  have L5 := Lib.hid ((Laid.start w).step (by simp) b5)
  have hbk : w.heap.size + 2 ≤ ((w.alloc (.cells #[.int .u64 0, .int .u64 0, .int .u64 0, .int .u64 0, .int .u64 0, .bool false, .bool false, .int .i64 0] 64)).alloc (.cells #[.int .u64 0, .int .u64 0, .int .u64 0, .int .u64 0, .int .u64 0, .bool false, .bool false, .int .i64 0] 64)).heap.size := by simp
  generalize ((w.alloc (.cells #[.int .u64 0, .int .u64 0, .int .u64 0, .int .u64 0, .int .u64 0, .bool false, .bool false, .int .i64 0] 64)).alloc (.cells #[.int .u64 0, .int .u64 0, .int .u64 0, .int .u64 0, .int .u64 0, .bool false, .bool false, .int .i64 0] 64)).heap.size = bk at hcv f5 hbk
  clear b5
  replace f5 := Lib.hid f5
  have hlen : s.data.toList.length = s.size := by simp
  have el : decide (256 < (s.size : Int)) = false := by simp; omega
  go_enter Tryz.func25, Tryz.ntmps25
  go_wp2_with fail
  clear hcv el
  go_loopw [6] (fun i wr => ∃ k : Nat, k ≤ s.size ∧ i = .int .i64 k ∧ Hid (Buf wr bk (mapTo tb s.data.toList k)) ∧ Hid (Laid w wr)) (fun i _ => s.size - (intOf i).toNat)
  case atStart => exact ⟨0, by omega, rfl, by rw [mapTo_zero]; exact f5, L5⟩
  case round =>
    obtain ⟨k, hk, rfl, hf, hL⟩ := hrel
    clear f5 L5
    by_cases hlt : k < s.size
    · have hl : k < s.data.toList.length := by omega
      have hc : wr.cell? ⟨bk, k, none⟩ = some (.int .u8 (s.data.toList[k].toNat : Nat)) := by
        have h1 : k < (mapTo tb s.data.toList k).length := by rw [mapTo_len]; exact hl
        rw [hf.out.1 k h1, mapTo_get _ _ _ hl]
      have hz : wr.frozen? ⟨bk, k, none⟩ = false := hf.out.2 k (by rw [mapTo_len]; exact hl)
      have hset := Lib.hid (mapTo_set tb s.data.toList k hl)
      have hsame := Lib.hid (mapTo_same tb s.data.toList k hl)
      generalize s.data.toList[k] = x at *
      by_cases hx : x = 9
      · have e9 : ((x.toNat : Int) == 9) = true := by rw [hx]; rfl
        have htb : Hid (tb x = 32) := by unfold tb; rw [hx]; exact rfl
        rw [htb.out] at hset
        clear hx
        go_wp2_with fail
        refine ⟨⟨k + 1, by omega, by go_num, ?_, hL.out.setCell hbk _⟩, by simp [intOf]; omega⟩
        rw [← hset.out]
        exact hf.out.set (by rw [mapTo_len]; exact hl) 32 rfl
      · have e9 : ((x.toNat : Int) == 9) = false := by
          simp only [beq_eq_false_iff_ne, ne_eq]
          exact fun e => hx (UInt8.toNat_inj.1 (by simp; omega))
        have htb : Hid (tb x = x) := if_neg hx
        have hn := Lib.hid (hsame.out htb.out)
        clear hx
        go_wp2_with fail
        exact ⟨⟨k + 1, by omega, by go_num, by rw [hn.out]; exact hf, hL⟩, by simp [intOf]; omega⟩
    · have he : Hid (mapTo tb s.data.toList k = s.data.toList.map tb) := by
        have : k = s.data.toList.length := by omega
        rw [this]
        exact mapTo_end tb _
      rw [he.out] at hf
      have hcv := Buf.text hf.out s.size cap (by simp)
      have hw : Hid ((split 32 (s.data.toList.map tb)).filter (fun w => !w.isEmpty) = words s.data.toList) := words_tabs s.data.toList
      have hcnt : (split 32 (s.data.toList.map tb)).length ≤ 257 := by
        have := split_count 32 (s.data.toList.map tb)
        simp at this
        omega
      have Cs := Lib.hid (split_any (bs (s.data.toList.map tb)) 32 wr (by rw [bs_size]; simp; omega))
      rw [bs_toList] at Cs
      generalize bs (s.data.toList.map tb) = S at *
      generalize split 32 (s.data.toList.map tb) = al at *
      clear hf he
      go_wp2_with fail
      refine Cs.out.mono ?_
      rintro e w6 ⟨⟨v, rfl, b7, cap7, rfl, hc7⟩, k6⟩
      have L6 := Lib.hid (hL.out.step hL.out.size k6)
      replace hc7 := Lib.hid hc7
      clear k6 hL hcv Cs
      go_wp2_with fail
      clear hk hlt
      go_loopw [8, 9] (fun v i wr2 => ∃ k2 : Nat, ∃ pre : List Bytes, k2 ≤ al.length ∧ i = .int .i64 k2 ∧ pre.length ≤ k2 ∧ Hid (pre = (al.take k2).filter (fun w => !w.isEmpty)) ∧ Hid (wr2.ownsRow w6.heap.size 9 1 v pre.length (strsOf pre)) ∧ Hid (Below w6.heap.size w6 wr2)) (fun _ i _ => al.length - (intOf i).toNat)
      case atStart => exact ⟨0, [], by omega, rfl, Nat.le_refl _, rfl, World.ownsRow_nil _ _ _ _, Below.refl _ _⟩
      case round =>
        obtain ⟨k2, pre, hk2, rfl, hpl, hpre, ho, hb2⟩ := hrel
        by_cases hlt2 : k2 < al.length
        · have hX := (hb2.out.cell (p := ⟨b7, k2, none⟩) (World.block_lt_of_cell? w6 _ (hc7.out k2 hlt2))).trans (hc7.out k2 hlt2)
          have htk := Lib.hid (show al.take (k2 + 1) = al.take k2 ++ [al[k2]] by rw [List.take_succ_eq_append_getElem hlt2])
          generalize hXe : al[k2] = x at *
          replace hXe := Lib.hid hXe
          have hie : (bs x).toList.isEmpty = x.isEmpty := by rw [ByteArray.toList_eq, bs_toList]
          by_cases hemp : x = []
          · have e0 : (bs x).toList.isEmpty = true := by rw [hie, hemp]; rfl
            have hp2 : pre = (al.take (k2 + 1)).filter (fun w => !w.isEmpty) := by
              rw [htk.out, List.filter_append, ← hpre.out, hemp]
              simp
            replace hp2 := Lib.hid hp2
            clear hemp hie
            go_wp2_with fail
            exact ⟨⟨k2 + 1, pre, by omega, by go_num, by omega, hp2, ho, hb2⟩, by simp [intOf]; omega⟩
          · have e0 : (bs x).toList.isEmpty = false := by rw [hie]; cases x <;> simp at hemp ⊢
            have hp2 : pre ++ [x] = (al.take (k2 + 1)).filter (fun w => !w.isEmpty) := by
              rw [htk.out, List.filter_append, ← hpre.out]
              have : (!x.isEmpty) = true := by cases x <;> simp at hemp ⊢
              simp [this]
            replace hp2 := Lib.hid hp2
            clear hemp hie
            go_wp2_with (at_builtin; refine wpList_append_own _ rfl _ _ 96 rfl w6.heap.size 9 i0 (.string ByteArray.empty) 1 16 Tryz.underlying96 hi hz0 hz1 hz2 rfl (by decide) _ _ _ rfl (ho.out.alloc _) ⟨wr.heap.size, 0, none⟩ 1 1 [.string _] rfl rfl (one_new _ _) (one_cell _) (by unfold maxLen; omega) (by omega) (by have := hb2.out.size; simp; omega) ?_; intro v2 w2 ho2 hg2 _; have ho2 := Lib.hid ho2; have hg2 := Lib.hid hg2)
            refine ⟨⟨k2 + 1, pre ++ [x], by omega, by go_num, by simp; omega, hp2, ?_, ?_⟩, by simp [intOf]; omega⟩
            · rw [strsOf_snoc, List.length_append]; exact ho2.out
            · exact (hb2.out.alloc hb2.out.size _).grown hg2.out (by have := hb2.out.size; simp; omega) (fun k hk => (ho.out.lt k hk).1)
        · have hpw : Hid (pre = words s.data.toList) := by
            rw [hpre.out, List.take_of_length_le (by omega)]
            exact hw.out
          have L7 := Lib.hid (L6.out.step L6.out.size hb2.out)
          have hp1 := Lib.hid (hpar.out pre hpw.out.symm)
          have hok : ∀ q ∈ pre, q ≠ [] ∧ ∀ b ∈ q, isBlank b = false := fun q hq => words_mem (by rw [← hpw.out]; exact hq)
          have hpl2 : pre.length ≤ 257 := by omega
          have hsz : Hid (∀ q ∈ pre, q.length ≤ 1000) := fun q hq => by
            have := words_len (s := s.data.toList) (q := q) (by rw [← hpw.out]; exact hq)
            simp at this
            omega
          clear hw hpre hc7 L6 hb2 hpl
          by_cases hcnt5 : pre.length = 5 ∨ pre.length = 6
          · have hne : pre ≠ [] := by rintro rfl; simp at hcnt5
            obtain ⟨g8, cap8, rfl, hc8⟩ := own_strs hne ho.out
            have hg8 := World.block_lt_of_cell? wr _ (hc8 0 (by omega))
            have L8 := Lib.hid (L7.out.step L7.out.size ((Below.refl wr.heap.size wr).alloc (Nat.le_refl _) (.cells #[.int .u64 0, .int .u64 0, .int .u64 0, .int .u64 0, .int .u64 0] 98)))
            have ca : Hid (∀ j, j < 5 → (wr.alloc (.cells #[.int .u64 0, .int .u64 0, .int .u64 0, .int .u64 0, .int .u64 0] 98)).cell? ⟨wr.heap.size, j, none⟩ = some (.int .u64 0)) := fun j hj => by
              rw [World.cell?_alloc_new]
              match j, hj with
              | 0, _ => rfl
              | 1, _ => rfl
              | 2, _ => rfl
              | 3, _ => rfl
              | 4, _ => rfl
            have fa : Hid (∀ j, j < 5 → (wr.alloc (.cells #[.int .u64 0, .int .u64 0, .int .u64 0, .int .u64 0, .int .u64 0] 98)).frozen? ⟨wr.heap.size, j, none⟩ = false) := fun j _ => by
              rw [frozen?_alloc_cells]
              simp [World.frozen?]
            have hc9 : Hid (∀ i (h : i < pre.length), (wr.alloc (.cells #[.int .u64 0, .int .u64 0, .int .u64 0, .int .u64 0, .int .u64 0] 98)).cell? ⟨g8, i, none⟩ = some (.string (bs pre[i]))) := fun i h => by
              rw [World.cell?_alloc_lt wr _ ⟨g8, i, none⟩ hg8]
              exact hc8 i h
            have hga : w.heap.size + 2 ≤ wr.heap.size := L7.out.size
            have hgg : g8 < wr.heap.size := hg8
            clear hc8 ho L7 hg8 hne
            have h56 : 5 ≤ pre.length ∧ pre.length ≤ 6 := by omega
            go_upto_region 17 with fail
            go_cut [66] from 59 (fun v wc => v = .bool false ∧ wc = wr)
            case first =>
              rcases hcnt5 with h5 | h6
              · have e5 : ((pre.length : Int) != 5) = false := by simp; omega
                replace h5 := Lib.hid h5
                go_wp2_with fail
                go_meet
                exact ⟨rfl, rfl⟩
              · have e5 : ((pre.length : Int) != 5) = true := by simp; omega
                have e6 : ((pre.length : Int) != 6) = false := by simp; omega
                replace h6 := Lib.hid h6
                go_wp2_with fail
                go_meet
                exact ⟨rfl, rfl⟩
            case rest =>
              obtain ⟨rfl, hwc⟩ := hcut
              rw [hwc]
              clear hwc
              replace hcnt5 := Lib.hid hcnt5
              go_wp2_with fail
              generalize wr.alloc (.cells #[.int .u64 0, .int .u64 0, .int .u64 0, .int .u64 0, .int .u64 0] 98) = w8 at *
              generalize wr.heap.size = ga at *
              go_loopw [11] (fun i wr3 => ∃ k3 : Nat, ∃ vals : Nat → Nat, k3 ≤ 5 ∧ i = .int .i64 k3 ∧ Hid (∀ j (h : j < pre.length), j < k3 → field j pre[j] = some (vals j)) ∧ Hid (∀ j, vals j < 18446744073709551616) ∧ Hid (∀ j, j < 5 → wr3.cell? ⟨ga, j, none⟩ = some (.int .u64 ((if j < k3 then vals j else 0 : Nat) : Int))) ∧ Hid (∀ j, j < 5 → wr3.frozen? ⟨ga, j, none⟩ = false) ∧ Hid (∀ i (h : i < pre.length), wr3.cell? ⟨g8, i, none⟩ = some (.string (bs pre[i]))) ∧ Hid (Laid w wr3)) (fun i _ => 5 - (intOf i).toNat)
              case atStart => exact ⟨0, fun _ => 0, by omega, rfl, fun j _ h => absurd h (Nat.not_lt_zero _), fun _ => by show 0 < _; omega, fun j h => by have := ca.out j h; simpa using this, fa, hc9, L8⟩
              case round =>
                obtain ⟨k3, vals, hk3, rfl, hv, hvl, hca, hfa, hcp, hL3⟩ := hrel
                clear ca fa hc9 L8
                by_cases hlt3 : k3 < 5
                · have hX3 := hcp.out k3 (by omega)
                  have hg8l := World.block_lt_of_cell? wr _ hX3
                  have hgal := World.block_lt_of_cell? wr _ (hca.out 0 (by omega))
                  have cf := field_any k3 (bs (pre[k3]'(by omega))) wr (by omega) (by rw [bs_size]; exact hsz.out _ (List.getElem_mem (by omega)))
                  rw [bs_toList] at cf
                  have hfn : Hid (field k3 (pre[k3]'(by omega)) = none → res = none) := fun h => by
                    rw [hp1.out]
                    exact ofWords_none (by omega) (by omega) hlt3 h
                  have hfl : Hid (∀ n, field k3 (pre[k3]'(by omega)) = some n → n < 18446744073709551616) := fun n h => field_lt (by omega) h
                  replace cf := Lib.hid cf
                  generalize hF : field k3 (pre[k3]'(by omega)) = fr at *
                  replace hF := Lib.hid hF
                  generalize bs (pre[k3]'(by omega)) = X at *
                  go_wp2_with fail
                  refine cf.out.mono ?_
                  rintro e w9 ⟨rfl, k9⟩
                  have L9 := Lib.hid (hL3.out.step hL3.out.size k9)
                  have hcp9 : Hid (∀ i (h : i < pre.length), w9.cell? ⟨g8, i, none⟩ = some (.string (bs pre[i]))) := fun i h => (k9.cell (p := ⟨g8, i, none⟩) hg8l).trans (hcp.out i h)
                  have hca9 : Hid (∀ j, j < 5 → w9.cell? ⟨ga, j, none⟩ = some (.int .u64 ((if j < k3 then vals j else 0 : Nat) : Int))) := fun j h => (k9.cell (p := ⟨ga, j, none⟩) hgal).trans (hca.out j h)
                  have hfa9 : Hid (∀ j, j < 5 → w9.frozen? ⟨ga, j, none⟩ = false) := fun j h => (k9.frozen (p := ⟨ga, j, none⟩) hgal).trans (hfa.out j h)
                  clear k9 hcp hca hfa hL3 hX3 hg8l hgal cf
                  cases fr with
                  | none =>
                    have hres := Lib.hid (hfn.out rfl)
                    simp only [answer, Option.getD_none, Option.isSome_none]
                    obtain ⟨q0, q1, q2, q3, q4, q5, q6, q7, q8, q9, q10, q11, q12, q13, q14, q15, q16, q17, q18, q19, q20, q21, q22, q23⟩ := L9.out.facts
                    go_wp2_with fail
                    refine bodyPost_ret (v := .tuple #[specV zero, .bool false]) ?_ rfl ?_
                    · rw [results_cell_tmp rfl]
                      go_simp
                      rfl
                    · exact ⟨by rw [hres.out]; rfl, below_eight L9.out.below _ _ _ _ _ _ _ _⟩
                  | some n =>
                    have hn := hfl.out n rfl
                    simp only [answer, Option.getD_some, Option.isSome_some]
                    have hck := hca9.out k3 hlt3
                    have hfk := hfa9.out k3 hlt3
                    clear hfn hfl
                    go_wp2_with fail
                    refine ⟨⟨k3 + 1, fun j => if j = k3 then n else vals j, by omega, by go_num, ?_, ?_, ?_, ?_, ?_, ?_⟩, by simp [intOf]; omega⟩
                    · intro j hj hjk
                      by_cases e : j = k3
                      · subst e
                        simp only [if_true]
                        exact hF.out
                      · simp only [e, if_false]
                        exact hv.out j hj (by omega)
                    · intro j
                      show (if j = k3 then n else vals j) < _
                      split
                      · exact hn
                      · exact hvl.out j
                    · intro j hj
                      by_cases e : k3 = j
                      · subst e
                        rw [World.cell?_setCell_same _ _ _ hck]
                        simp
                      · rw [World.cell?_setCell_other _ _ _ _ (off_ne e), hca9.out j hj]
                        have e1 : (j < k3) ↔ (j < k3 + 1) := by omega
                        have e2 : ¬ j = k3 := fun h => e h.symm
                        simp only [e1, e2, if_false]
                    · intro j hj
                      rw [World.frozen?_setCell]
                      exact hfa9.out j hj
                    · intro i h
                      rw [World.cell?_setCell_other _ _ _ _ (by intro e; injection e with e1; omega)]
                      exact hcp9.out i h
                    · exact L9.out.setCell hga _
                · obtain rfl : k3 = 5 := by omega
                  have c0 : wr.cell? ⟨ga, 0, none⟩ = some (.int .u64 (vals 0 : Nat)) := hca.out 0 (by omega)
                  have c1 : wr.cell? ⟨ga, 1, none⟩ = some (.int .u64 (vals 1 : Nat)) := hca.out 1 (by omega)
                  have c2 : wr.cell? ⟨ga, 2, none⟩ = some (.int .u64 (vals 2 : Nat)) := hca.out 2 (by omega)
                  have c3 : wr.cell? ⟨ga, 3, none⟩ = some (.int .u64 (vals 3 : Nat)) := hca.out 3 (by omega)
                  have c4 : wr.cell? ⟨ga, 4, none⟩ = some (.int .u64 (vals 4 : Nat)) := hca.out 4 (by omega)
                  have p2 := hcp.out 2 (by omega)
                  have p4 := hcp.out 4 (by omega)
                  obtain ⟨z2, e2⟩ := head_byte (hok pre[2] (List.getElem_mem (by omega))).1
                  obtain ⟨z4, e4⟩ := head_byte (hok pre[4] (List.getElem_mem (by omega))).1
                  have hfive : Hid (∀ n, five pre[0] pre[1] pre[2] pre[3] pre[4] n = some ⟨vals 0, vals 1, vals 2, vals 3, vals 4, pre[2].head? == some 42, pre[4].head? == some 42, n⟩) := fun n => by
                    unfold five
                    rw [hv.out 0 (by omega) (by omega), hv.out 1 (by omega) (by omega), hv.out 2 (by omega) (by omega), hv.out 3 (by omega) (by omega), hv.out 4 (by omega) (by omega)]
                  generalize bs pre[2] = X2 at *
                  generalize bs pre[4] = X4 at *
                  generalize (pre[2].head? == some 42) = d2 at *
                  generalize (pre[4].head? == some 42) = d4 at *
                  generalize vals 0 = x0 at *
                  generalize vals 1 = x1 at *
                  generalize vals 2 = x2 at *
                  generalize vals 3 = x3 at *
                  generalize vals 4 = x4 at *
                  have hg8l := World.block_lt_of_cell? wr _ p2
                  have hgal := World.block_lt_of_cell? wr _ c0
                  simp only [] at hg8l hgal
                  have n2 : (2 : Int) < (pre.length : Int) := by omega
                  have n4 : (4 : Int) < (pre.length : Int) := by omega
                  clear hca hfa hv
                  go_upto_region 27 with fail
                  go_cut [14] from 87 (fun v wc => v = .pointer (some ⟨wr.heap.size, 0, none⟩) ∧ wc = (wr.alloc (.cells #[.int .u64 x0, .int .u64 x1, .int .u64 x2, .int .u64 x3, .int .u64 x4, .bool d2, .bool d4, .int .i64 0] 64)).drew)
                  case first =>
                    go_region_held3 (fun w' => w'.cell? ⟨ga, 0, none⟩ = some (.int .u64 x0) ∧ w'.cell? ⟨ga, 1, none⟩ = some (.int .u64 x1) ∧ w'.cell? ⟨ga, 2, none⟩ = some (.int .u64 x2) ∧ w'.cell? ⟨ga, 3, none⟩ = some (.int .u64 x3) ∧ w'.cell? ⟨ga, 4, none⟩ = some (.int .u64 x4) ∧ w'.cell? ⟨g8, 2, none⟩ = some (.string X2) ∧ w'.cell? ⟨g8, 4, none⟩ = some (.string X4)) (first | exact ⟨c0, c1, c2, c3, c4, p2, p4⟩ | go_keep) (first | fail)
                    all_goals (go_wp2_with fail; go_meet; exact ⟨rfl, rfl⟩)
                  case rest =>
                    obtain ⟨rfl, hwc⟩ := hcut
                    rw [hwc]
                    clear hwc
                    have Lx := Lib.hid (hL3.out.step hL3.out.size (((Below.refl wr.heap.size wr).alloc (Nat.le_refl _) (.cells #[.int .u64 x0, .int .u64 x1, .int .u64 x2, .int .u64 x3, .int .u64 x4, .bool d2, .bool d4, .int .i64 0] 64)).drew))
                    have y0 : (wr.alloc (.cells #[.int .u64 x0, .int .u64 x1, .int .u64 x2, .int .u64 x3, .int .u64 x4, .bool d2, .bool d4, .int .i64 0] 64)).drew.cell? ⟨wr.heap.size, 0, none⟩ = some (.int .u64 x0) := by show (wr.alloc (.cells #[.int .u64 x0, .int .u64 x1, .int .u64 x2, .int .u64 x3, .int .u64 x4, .bool d2, .bool d4, .int .i64 0] 64)).cell? _ = _; rw [World.cell?_alloc_new]; rfl
                    have y1 : (wr.alloc (.cells #[.int .u64 x0, .int .u64 x1, .int .u64 x2, .int .u64 x3, .int .u64 x4, .bool d2, .bool d4, .int .i64 0] 64)).drew.cell? ⟨wr.heap.size, 1, none⟩ = some (.int .u64 x1) := by show (wr.alloc (.cells #[.int .u64 x0, .int .u64 x1, .int .u64 x2, .int .u64 x3, .int .u64 x4, .bool d2, .bool d4, .int .i64 0] 64)).cell? _ = _; rw [World.cell?_alloc_new]; rfl
                    have y2 : (wr.alloc (.cells #[.int .u64 x0, .int .u64 x1, .int .u64 x2, .int .u64 x3, .int .u64 x4, .bool d2, .bool d4, .int .i64 0] 64)).drew.cell? ⟨wr.heap.size, 2, none⟩ = some (.int .u64 x2) := by show (wr.alloc (.cells #[.int .u64 x0, .int .u64 x1, .int .u64 x2, .int .u64 x3, .int .u64 x4, .bool d2, .bool d4, .int .i64 0] 64)).cell? _ = _; rw [World.cell?_alloc_new]; rfl
                    have y3 : (wr.alloc (.cells #[.int .u64 x0, .int .u64 x1, .int .u64 x2, .int .u64 x3, .int .u64 x4, .bool d2, .bool d4, .int .i64 0] 64)).drew.cell? ⟨wr.heap.size, 3, none⟩ = some (.int .u64 x3) := by show (wr.alloc (.cells #[.int .u64 x0, .int .u64 x1, .int .u64 x2, .int .u64 x3, .int .u64 x4, .bool d2, .bool d4, .int .i64 0] 64)).cell? _ = _; rw [World.cell?_alloc_new]; rfl
                    have y4 : (wr.alloc (.cells #[.int .u64 x0, .int .u64 x1, .int .u64 x2, .int .u64 x3, .int .u64 x4, .bool d2, .bool d4, .int .i64 0] 64)).drew.cell? ⟨wr.heap.size, 4, none⟩ = some (.int .u64 x4) := by show (wr.alloc (.cells #[.int .u64 x0, .int .u64 x1, .int .u64 x2, .int .u64 x3, .int .u64 x4, .bool d2, .bool d4, .int .i64 0] 64)).cell? _ = _; rw [World.cell?_alloc_new]; rfl
                    have y5 : (wr.alloc (.cells #[.int .u64 x0, .int .u64 x1, .int .u64 x2, .int .u64 x3, .int .u64 x4, .bool d2, .bool d4, .int .i64 0] 64)).drew.cell? ⟨wr.heap.size, 5, none⟩ = some (.bool d2) := by show (wr.alloc (.cells #[.int .u64 x0, .int .u64 x1, .int .u64 x2, .int .u64 x3, .int .u64 x4, .bool d2, .bool d4, .int .i64 0] 64)).cell? _ = _; rw [World.cell?_alloc_new]; rfl
                    have y6 : (wr.alloc (.cells #[.int .u64 x0, .int .u64 x1, .int .u64 x2, .int .u64 x3, .int .u64 x4, .bool d2, .bool d4, .int .i64 0] 64)).drew.cell? ⟨wr.heap.size, 6, none⟩ = some (.bool d4) := by show (wr.alloc (.cells #[.int .u64 x0, .int .u64 x1, .int .u64 x2, .int .u64 x3, .int .u64 x4, .bool d2, .bool d4, .int .i64 0] 64)).cell? _ = _; rw [World.cell?_alloc_new]; rfl
                    have y7 : (wr.alloc (.cells #[.int .u64 x0, .int .u64 x1, .int .u64 x2, .int .u64 x3, .int .u64 x4, .bool d2, .bool d4, .int .i64 0] 64)).drew.cell? ⟨wr.heap.size, 7, none⟩ = some (.int .i64 0) := by show (wr.alloc (.cells #[.int .u64 x0, .int .u64 x1, .int .u64 x2, .int .u64 x3, .int .u64 x4, .bool d2, .bool d4, .int .i64 0] 64)).cell? _ = _; rw [World.cell?_alloc_new]; rfl
                    have fy : (wr.alloc (.cells #[.int .u64 x0, .int .u64 x1, .int .u64 x2, .int .u64 x3, .int .u64 x4, .bool d2, .bool d4, .int .i64 0] 64)).drew.frozen? ⟨wr.heap.size, 7, none⟩ = false := by show (wr.alloc (.cells #[.int .u64 x0, .int .u64 x1, .int .u64 x2, .int .u64 x3, .int .u64 x4, .bool d2, .bool d4, .int .i64 0] 64)).frozen? _ = _; rw [frozen?_alloc_cells]; simp [World.frozen?]
                    have hcx : Hid (∀ h : 5 < pre.length, (wr.alloc (.cells #[.int .u64 x0, .int .u64 x1, .int .u64 x2, .int .u64 x3, .int .u64 x4, .bool d2, .bool d4, .int .i64 0] 64)).drew.cell? ⟨g8, 5, none⟩ = some (.string (bs pre[5]))) := fun h => by
                      show (wr.alloc (.cells #[.int .u64 x0, .int .u64 x1, .int .u64 x2, .int .u64 x3, .int .u64 x4, .bool d2, .bool d4, .int .i64 0] 64)).cell? _ = _
                      rw [World.cell?_alloc_lt wr _ ⟨g8, 5, none⟩ hg8l]
                      exact hcp.out 5 h
                    have hgx : w.heap.size + 2 ≤ wr.heap.size := hL3.out.size
                    have hszx : g8 < (wr.alloc (.cells #[.int .u64 x0, .int .u64 x1, .int .u64 x2, .int .u64 x3, .int .u64 x4, .bool d2, .bool d4, .int .i64 0] 64)).drew.heap.size := by show g8 < (wr.alloc (.cells #[.int .u64 x0, .int .u64 x1, .int .u64 x2, .int .u64 x3, .int .u64 x4, .bool d2, .bool d4, .int .i64 0] 64)).heap.size; simp; omega
                    have hszy : wr.heap.size < (wr.alloc (.cells #[.int .u64 x0, .int .u64 x1, .int .u64 x2, .int .u64 x3, .int .u64 x4, .bool d2, .bool d4, .int .i64 0] 64)).drew.heap.size := by show wr.heap.size < (wr.alloc (.cells #[.int .u64 x0, .int .u64 x1, .int .u64 x2, .int .u64 x3, .int .u64 x4, .bool d2, .bool d4, .int .i64 0] 64)).heap.size; simp
                    clear c0 c1 c2 c3 c4 p2 p4 hcp hL3 hg8l hgal n2 n4 e2 e4
                    generalize (wr.alloc (.cells #[.int .u64 x0, .int .u64 x1, .int .u64 x2, .int .u64 x3, .int .u64 x4, .bool d2, .bool d4, .int .i64 0] 64)).drew = wx at *
                    generalize wr.heap.size = gx at *
                    by_cases h6 : pre.length = 6
                    · have e6 : ((pre.length : Int) == 6) = true := by simp; omega
                      have hx5 := hcx.out (by omega)
                      have ch := ahead_any (bs (pre[5]'(by omega))) wx (by rw [bs_size]; exact hsz.out _ (List.getElem_mem (by omega)))
                      rw [bs_toList] at ch
                      have hres := Lib.hid (hp1.out.trans (ofWords_six h6))
                      have hab : ∀ n, aheadN (pre[5]'(by omega)) = some n → -899 ≤ n ∧ n ≤ 899 := fun n h => ahead_ok h
                      generalize bs (pre[5]'(by omega)) = X5 at *
                      generalize aheadN (pre[5]'(by omega)) = ar at *
                      replace ch := Lib.hid ch
                      replace h6 := Lib.hid h6
                      have n5 : (5 : Int) < (pre.length : Int) := by omega
                      go_wp2_with fail
                      refine ch.out.mono ?_
                      rintro e w10 ⟨rfl, k10⟩
                      have L10 := Lib.hid (Lx.out.step Lx.out.size k10)
                      have t0 := (k10.cell (p := ⟨gx, 0, none⟩) hszy).trans y0
                      have t1 := (k10.cell (p := ⟨gx, 1, none⟩) hszy).trans y1
                      have t2 := (k10.cell (p := ⟨gx, 2, none⟩) hszy).trans y2
                      have t3 := (k10.cell (p := ⟨gx, 3, none⟩) hszy).trans y3
                      have t4 := (k10.cell (p := ⟨gx, 4, none⟩) hszy).trans y4
                      have t5 := (k10.cell (p := ⟨gx, 5, none⟩) hszy).trans y5
                      have t6 := (k10.cell (p := ⟨gx, 6, none⟩) hszy).trans y6
                      have t7 := (k10.cell (p := ⟨gx, 7, none⟩) hszy).trans y7
                      have ft := (k10.frozen (p := ⟨gx, 7, none⟩) hszy).trans fy
                      clear k10 y0 y1 y2 y3 y4 y5 y6 y7 fy hx5 hcx Lx ch hszx hszy
                      cases ar with
                      | none =>
                        have hres2 : Hid (res = none) := hres.out
                        simp only [answerZ, Option.getD_none, Option.isSome_none]
                        obtain ⟨q0, q1, q2, q3, q4, q5, q6, q7, q8, q9, q10, q11, q12, q13, q14, q15, q16, q17, q18, q19, q20, q21, q22, q23⟩ := L10.out.facts
                        go_wp2_with fail
                        refine bodyPost_ret (v := .tuple #[specV zero, .bool false]) ?_ rfl ?_
                        · rw [results_cell_tmp rfl]
                          go_simp
                          rfl
                        · exact ⟨by rw [hres2.out]; rfl, below_eight L10.out.below _ _ _ _ _ _ _ _⟩
                      | some n =>
                        have hn := hab n rfl
                        have hres2 : Hid (res = some ⟨x0, x1, x2, x3, x4, d2, d4, n⟩) := hres.out.trans (hfive.out n)
                        simp only [answerZ, Option.getD_some, Option.isSome_some]
                        obtain ⟨q0, q1, q2, q3, q4, q5, q6, q7, q8, q9, q10, q11, q12, q13, q14, q15, q16, q17, q18, q19, q20, q21, q22, q23⟩ := L10.out.facts
                        have ne1 : ¬ gx = w.heap.size := by omega
                        have ne2 : ¬ w.heap.size = gx := by omega
                        go_wp2_with fail
                        refine bodyPost_ret (v := .tuple #[specV ⟨x0, x1, x2, x3, x4, d2, d4, n⟩, .bool true]) ?_ rfl ?_
                        · rw [results_cell_tmp rfl]
                          go_simp
                          rfl
                        · exact ⟨by rw [hres2.out]; rfl, below_eight (L10.out.below.setCell (by show w.heap.size ≤ gx; omega) _) _ _ _ _ _ _ _ _⟩
                    · have e6 : ((pre.length : Int) == 6) = false := by simp; omega
                      have hres : Hid (res = some ⟨x0, x1, x2, x3, x4, d2, d4, 0⟩) := by
                        rw [hp1.out, ofWords_five (by omega)]
                        exact hfive.out 0
                      replace h6 := Lib.hid h6
                      obtain ⟨q0, q1, q2, q3, q4, q5, q6, q7, q8, q9, q10, q11, q12, q13, q14, q15, q16, q17, q18, q19, q20, q21, q22, q23⟩ := Lx.out.facts
                      go_wp2_with fail
                      refine bodyPost_ret (v := .tuple #[specV ⟨x0, x1, x2, x3, x4, d2, d4, 0⟩, .bool true]) ?_ rfl ?_
                      · rw [results_cell_tmp rfl]
                        go_simp
                        rfl
                      · exact ⟨by rw [hres.out]; rfl, below_eight Lx.out.below _ _ _ _ _ _ _ _⟩
          · have e5 : ((pre.length : Int) != 5) = true := by simp; omega
            have e6 : ((pre.length : Int) != 6) = true := by simp; omega
            have hres : Hid (res = none) := by
              rw [hp1.out]
              match pre, hcnt5 with
              | [], _ => exact rfl
              | [_], _ => exact rfl
              | [_, _], _ => exact rfl
              | [_, _, _], _ => exact rfl
              | [_, _, _, _], _ => exact rfl
              | [_, _, _, _, _], h => exact absurd (Or.inl rfl) h
              | [_, _, _, _, _, _], h => exact absurd (Or.inr rfl) h
              | _ :: _ :: _ :: _ :: _ :: _ :: _ :: _, _ => exact rfl
            clear hcnt5
            obtain ⟨pv, cap8, rfl⟩ : ∃ pv cap8, u8 = .slice pv pre.length cap8 := by
              rcases ho.out.2 with ⟨rfl, h0⟩ | ⟨g, cap8, cur, rfl, hrest⟩
              · exact ⟨none, 0, by rw [h0]⟩
              · exact ⟨_, _, rfl⟩
            clear ho
            obtain ⟨q0, q1, q2, q3, q4, q5, q6, q7, q8, q9, q10, q11, q12, q13, q14, q15, q16, q17, q18, q19, q20, q21, q22, q23⟩ := L7.out.facts
            go_wp2_with fail
            refine bodyPost_ret (v := .tuple #[specV zero, .bool false]) ?_ rfl ?_
            · rw [results_cell_tmp rfl]
              go_simp
              rfl
            · exact ⟨by rw [hres.out]; rfl, below_eight L7.out.below _ _ _ _ _ _ _ _⟩
end Go.Proofs.YtiidhcpflplpiaaGreatDoor
