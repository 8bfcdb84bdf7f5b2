/-
  One byte of a text's copy is changed, at any place that is asked for: what the walk meets, and what text comes back. Condition: the text isn't empty, and has at most 100000 bytes.
-/
import Derived.Test.YtddnlfelggbkcaaAwake
import Derived.Lib.ConvBytes
import Derived.Laws.IdiomStrings
namespace Go.Proofs.Ytddnlfelggbkcaa
open Go.RowKit Crc

theorem bytes_of (w : World) (t : ByteArray) : ∃ cap w5, (convert 9 35 (.string t)).run Try.prog w = .ok (.slice (some ⟨w.heap.size, 0, none⟩) t.size cap) w5 ∧ Below w.heap.size w w5 ∧ w5.heap.size = w.heap.size + 1 ∧
    (∀ j, j < t.size → w5.cell? ⟨w.heap.size, j, none⟩ = some (.int .u8 (t.data.toList.getD j 0).toNat)) ∧ (∀ j, j < t.size → w5.frozen? ⟨w.heap.size, j, none⟩ = false) := by
  refine ⟨_, _, Lib.run_convert_string_bytes w 9 35 5 t Try.underlying9 Try.underlying35 Try.underlying5, ⟨?_, ?_, ?_, ?_, fun k hk => Lib.bytesWorld_at_old w 5 t k hk⟩, Lib.bytesWorld_size w 5 t, fun j hj => Lib.bytesWorld_cell w 5 t j hj, fun j hj => ?_⟩
  · rfl
  · rfl
  · rfl
  · rw [Lib.bytesWorld_size]; omega
  · simp [World.frozen?, Lib.bytesWorld_at_new, Lib.bytesCells]
    omega

/-- The place that is asked for, as the walk spells it. -/
theorem place_of (at' : Int) (n : Nat) (h0 : 0 < n) (hn : n ≤ 100000) :
    ∃ i : Nat, i < n ∧ wrap64 ((IntKind.u64.wrap at').tmod (IntKind.u64.wrap (n : Int))) = (i : Int) := by
  have e1 : IntKind.u64.wrap (n : Int) = (n : Int) := IntWalk.u64_in _ (by omega)
  have e2 : 0 ≤ IntKind.u64.wrap at' := by rw [IntKind.wrap_u64]; omega
  rw [e1, IntWalk.rem_in _ _ e2]
  generalize IntKind.u64.wrap at' = u at *
  have h1 := Int.emod_nonneg u (show (n : Int) ≠ 0 by omega)
  have h2 := Int.emod_lt_of_pos u (show (0 : Int) < n by omega)
  refine ⟨(u % n).toNat, by omega, ?_⟩
  rw [IntWalk.wrap64_in _ (by omega)]
  omega

theorem size_nz (n : Nat) (h0 : 0 < n) (hn : n ≤ 100000) : ¬ IntKind.u64.wrap (n : Int) = 0 := by
  rw [IntWalk.u64_in _ (by omega)]; omega

theorem xor_u8 (x c : Nat) (hx : x < 256) (hc : c < 256) : bits .xor .u8 (x : Int) (c : Int) = ((x ^^^ c : Nat) : Int) ∧ x ^^^ c < 256 :=
  ⟨u8_xor_nat x c hx hc, Nat.xor_lt_two_pow (n := 8) hx hc⟩

/-- What is said of the text that comes back: it is F with one byte changed by c. -/
def Changed (F G : ByteArray) (c : Nat) : Prop :=
  ∃ (p q : List UInt8) (x y : UInt8), F.data.toList = p ++ x :: q ∧ G.data.toList = p ++ y :: q ∧ (c = 0 → x = y) ∧ (c ≠ 0 → x ≠ y)

theorem set_split (l : List UInt8) (i : Nat) (h : i < l.length) (y : UInt8) : l = l.take i ++ l[i] :: l.drop (i + 1) ∧ l.set i y = l.take i ++ y :: l.drop (i + 1) := by
  constructor
  · rw [List.getElem_cons_drop, List.take_append_drop]
  · rw [List.set_eq_take_append_cons_drop, if_pos h]

theorem changed_set (F : ByteArray) (i : Nat) (h : i < F.size) (c : Nat) (hc : c < 256) :
    Changed F ⟨(F.data.toList.set i (UInt8.ofNat ((F.data.toList.getD i 0).toNat ^^^ c))).toArray⟩ c := by
  have hl : i < F.data.toList.length := by rw [← Lib.size_eq]; exact h
  have hg : F.data.toList.getD i 0 = F.data.toList[i] := by rw [List.getD_eq_getElem?_getD, List.getElem?_eq_getElem hl]; rfl
  obtain ⟨h1, h2⟩ := set_split F.data.toList i hl (UInt8.ofNat ((F.data.toList.getD i 0).toNat ^^^ c))
  refine ⟨_, _, _, _, h1, h2, fun h0 => ?_, fun hn he => ?_⟩
  · rw [h0, Nat.xor_zero, hg]
    apply UInt8.toNat_inj.1
    rw [UInt8.toNat_ofNat_of_lt' (UInt8.toNat_lt _)]
  · have hx := UInt8.toNat_lt F.data.toList[i]
    have e := congrArg UInt8.toNat he
    rw [hg, UInt8.toNat_ofNat_of_lt' (xor_u8 _ c hx hc).2] at e
    have e2 : F.data.toList[i].toNat ^^^ 0 = F.data.toList[i].toNat ^^^ c := by rw [Nat.xor_zero]; exact e
    exact hn (xor_left_inj e2).symm

theorem change_byte (w : World) (F : ByteArray) (at' : Int) (c : Nat) (h0 : 0 < F.size) (hF : F.size ≤ 100000) (hc : c < 256) :
    ∃ (i x y cap : Nat) (w5 : World) (G : ByteArray), i < F.size ∧ wrap64 ((IntKind.u64.wrap at').tmod (IntKind.u64.wrap (F.size : Int))) = (i : Int) ∧
      (convert 9 35 (.string F)).run Try.prog w = .ok (.slice (some ⟨w.heap.size, 0, none⟩) F.size cap) w5 ∧
      w5.cell? ⟨w.heap.size, i, none⟩ = some (.int .u8 (x : Nat)) ∧ w5.frozen? ⟨w.heap.size, i, none⟩ = false ∧ bits .xor .u8 (x : Int) (c : Int) = (y : Int) ∧
      Hid (∀ W : World, W.heap[w.heap.size]? = (w5.setCell ⟨w.heap.size, i, none⟩ (.int .u8 (y : Nat))).heap[w.heap.size]? → (convert 35 9 (.slice (some ⟨w.heap.size, 0, none⟩) F.size cap)).run Try.prog W = .ok (.string G) W) ∧
      Hid (Below w.heap.size w (w5.setCell ⟨w.heap.size, i, none⟩ (.int .u8 (y : Nat)))) ∧ Hid (Changed F G c) ∧ Hid (G.size = F.size) ∧ Hid (w.heap.size < (w5.setCell ⟨w.heap.size, i, none⟩ (.int .u8 (y : Nat))).heap.size) := by
  obtain ⟨i, hi, hidx⟩ := place_of at' F.size h0 hF
  obtain ⟨cap, w5, hcv, b5, z5, c5, f5⟩ := bytes_of w F
  have hx : (F.data.toList.getD i 0).toNat < 256 := UInt8.toNat_lt _
  obtain ⟨hxor, hlt⟩ := xor_u8 _ c hx hc
  refine ⟨i, (F.data.toList.getD i 0).toNat, (F.data.toList.getD i 0).toNat ^^^ c, cap, w5, ⟨(F.data.toList.set i (UInt8.ofNat ((F.data.toList.getD i 0).toNat ^^^ c))).toArray⟩, hi, hidx, hcv, c5 i hi, f5 i hi, hxor, ?_, b5.setCell (Nat.le_refl _) _, changed_set F i hi c hc, ?_, ?_⟩
  · intro W hW
    have hl : (F.data.toList.set i (UInt8.ofNat ((F.data.toList.getD i 0).toNat ^^^ c))).length = F.size := by rw [List.length_set, ← Lib.size_eq]
    have := run_convert_bytes_back (P := Try.prog) W 35 9 5 ⟨w.heap.size, 0, none⟩ cap (F.data.toList.set i (UInt8.ofNat ((F.data.toList.getD i 0).toNat ^^^ c))) Try.underlying35 Try.underlying5 Try.underlying9 (fun j hj => by
      have hj' : j < F.size := by rw [hl] at hj; exact hj
      have hadd : (⟨w.heap.size, 0, none⟩ : Addr).add j = ⟨w.heap.size, j, none⟩ := by unfold Addr.add; split <;> simp_all
      rw [hadd, World.cell?_of_block (w := w5.setCell ⟨w.heap.size, i, none⟩ (.int .u8 (((F.data.toList.getD i 0).toNat ^^^ c : Nat) : Int))) hW, List.getElem_set]
      by_cases e : i = j
      · subst e
        rw [if_pos rfl, World.cell?_setCell_same _ _ _ (c5 i hi)]
        rw [UInt8.toNat_ofNat_of_lt' hlt]
      · rw [if_neg e, World.cell?_setCell_other _ _ _ _ (off_ne e), c5 j hj']
        rw [List.getD_eq_getElem?_getD, List.getElem?_eq_getElem (by rw [← Lib.size_eq]; exact hj')]; rfl)
    rw [hl] at this
    exact this
  · show _ = F.size
    rw [Lib.size_eq, Lib.size_eq]; simp
  · show w.heap.size < _
    simp [World.setCell, z5]

theorem ofNat_mod_inj {a b : Nat} (h : UInt8.ofNat a = UInt8.ofNat b) : a % 256 = b % 256 := by
  have := congrArg UInt8.toNat h
  simpa using this

theorem tail4_inj {a b : Nat} (ha : a < 4294967296) (hb : b < 4294967296) (h : tail4 a = tail4 b) : a = b := by
  unfold tail4 at h
  simp only [List.cons.injEq, and_true] at h
  obtain ⟨h1, h2, h3, h4⟩ := h
  have e1 := ofNat_mod_inj h1
  have e2 := ofNat_mod_inj h2
  have e3 := ofNat_mod_inj h3
  have e4 := ofNat_mod_inj h4
  omega

theorem isWhole_iff (l : List UInt8) : isWhole l = true ↔ 4 ≤ l.length ∧ l.drop (l.length - 4) = tail4 (crc (l.take (l.length - 4))) := by
  unfold isWhole; simp

/-- A text with its sum, of which one byte was changed, isn't whole. -/
theorem whole_differs (p q : List UInt8) (x y : UInt8) (hxy : x ≠ y) (hF : isWhole (p ++ x :: q) = true) : isWhole (p ++ y :: q) = false := by
  rw [Bool.eq_false_iff]
  intro hG
  rw [isWhole_iff] at hF hG
  obtain ⟨h4, hF⟩ := hF
  obtain ⟨_, hG⟩ := hG
  have hlen : (p ++ y :: q).length = (p ++ x :: q).length := by simp
  rw [hlen] at hG
  generalize hm : (p ++ x :: q).length - 4 = m at hF hG
  by_cases hp : p.length < m
  · -- the byte is in the text
    obtain ⟨k, hk⟩ : ∃ k, m = p.length + (k + 1) := ⟨m - p.length - 1, by omega⟩
    subst hk
    have hd : (p ++ y :: q).drop (p.length + (k + 1)) = (p ++ x :: q).drop (p.length + (k + 1)) := by simp [List.drop_append]
    rw [hd, hF] at hG
    have hc := tail4_inj (crc_lt _) (crc_lt _) hG
    have e1 : (p ++ x :: q).take (p.length + (k + 1)) = p ++ x :: q.take k := by rw [List.take_append, List.take_of_length_le (by omega)]; simp
    have e2 : (p ++ y :: q).take (p.length + (k + 1)) = p ++ y :: q.take k := by rw [List.take_append, List.take_of_length_le (by omega)]; simp
    rw [e1, e2] at hc
    exact crc_differs p _ x y hxy hc
  · -- the byte is in the sum
    have ht : (p ++ y :: q).take m = (p ++ x :: q).take m := by
      rw [List.take_append_of_le_length (by omega), List.take_append_of_le_length (by omega)]
    rw [ht, ← hF, List.drop_append_of_le_length (by omega), List.drop_append_of_le_length (by omega)] at hG
    have := List.append_cancel_left hG
    simp only [List.cons.injEq, and_true] at this
    exact hxy this.symm

theorem isWhole_changed {F G : ByteArray} {c : Nat} (hF : isWhole F.data.toList = true) (ch : Changed F G c) : isWhole G.data.toList = (c == 0) := by
  obtain ⟨p, q, x, y, e1, e2, h0, h1⟩ := ch
  by_cases hc : c = 0
  · rw [e2, ← h0 hc, ← e1, hF, hc]; rfl
  · rw [e1] at hF
    rw [e2, whole_differs p q x y (h1 hc) hF]
    symm; simpa using hc

theorem crc_changed {F G : ByteArray} {c : Nat} (hc : c ≠ 0) (ch : Changed F G c) : crc F.data.toList ≠ crc G.data.toList := by
  obtain ⟨p, q, x, y, e1, e2, _, h1⟩ := ch
  rw [e1, e2]
  exact crc_differs p q x y (h1 hc)

/-- What Frame makes is whole, and its text is the text. -/
theorem tail4_length (c : Nat) : (tail4 c).length = 4 := rfl
theorem framed_whole (s : ByteArray) : isWhole (framed s).data.toList = true := by
  rw [framed_data, isWhole_iff]
  have e : (s.data.toList ++ tail4 (crc s.data.toList)).length - 4 = s.data.toList.length := by rw [List.length_append, tail4_length]; omega
  rw [e]
  refine ⟨by rw [List.length_append, tail4_length]; omega, ?_⟩
  rw [List.drop_left, List.take_left]
theorem framed_body (s : ByteArray) : body (framed s) = s := by
  apply WideShapes.bytes_inj
  rw [body_data, framed_data]
  have e : (s.data.toList ++ tail4 (crc s.data.toList)).length - 4 = s.data.toList.length := by rw [List.length_append, tail4_length]; omega
  rw [e, List.take_left]
theorem framed_size (s : ByteArray) : (framed s).size = s.size + 4 := by
  rw [Lib.size_eq, framed_data, List.length_append, tail4_length, ← Lib.size_eq]
end Go.Proofs.Ytddnlfelggbkcaa
