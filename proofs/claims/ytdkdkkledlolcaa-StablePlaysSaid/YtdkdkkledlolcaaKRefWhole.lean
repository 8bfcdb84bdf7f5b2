/-
  crc.Whole and the document's Whole answer alike: the text where the last four bytes are its sum, else nothing. Condition: at most 100000 bytes.
-/
import Derived.Test.YtdkdkkledlolcaaKWhole
import Derived.Lib.Strings
import Derived.Lib.SmallJoins
namespace Go.Proofs.Ytdkdkkledlolcaa.K
open Go.RowKit Crc
set_option maxRecDepth 100000

/-- Is this a text with its sum? -/
def isWhole (l : List UInt8) : Bool := decide (4 ≤ l.length) && (l.drop (l.length - 4) == tail4 (crc (l.take (l.length - 4))))

theorem body_data (s : ByteArray) : (body s).data.toList = s.data.toList.take (s.data.toList.length - 4) := by
  unfold body; rw [Lib.extract_data, Lib.size_eq]; simp
theorem tail_data (s : ByteArray) : (tail s).data.toList = s.data.toList.drop (s.data.toList.length - 4) := by
  unfold tail; rw [Lib.extract_data, Lib.size_eq, List.take_of_length_le (by simp)]
theorem tailStr_data (c : Nat) : (tailStr c).data.toList = tail4 c := rfl

theorem whole_eq (s : ByteArray) (h4 : 4 ≤ s.size) : ((tail s).toList == (tailStr (crc (body s).data.toList)).toList) = isWhole s.data.toList := by
  rw [Lib.toList_data, Lib.toList_data, tailStr_data, tail_data, body_data]
  unfold isWhole
  rw [Lib.size_eq] at h4
  rw [decide_eq_true h4, Bool.true_and]

theorem framed_data (s : ByteArray) : (framed s).data.toList = s.data.toList ++ tail4 (crc s.data.toList) := by
  unfold framed; rw [Joins.data_append, tailStr_data]

theorem frame_eq (s : ByteArray) (h4 : 4 ≤ s.size) : ((framed (body s)).toList == s.toList) = isWhole s.data.toList := by
  rw [Lib.toList_data, Lib.toList_data, framed_data, body_data]
  unfold isWhole
  rw [Lib.size_eq] at h4
  generalize s.data.toList = l at *
  rw [Bool.eq_iff_iff]
  simp only [h4, decide_true, Bool.true_and, beq_iff_eq]
  constructor
  · intro h
    have h2 := (List.take_append_drop (l.length - 4) l)
    rw [← h] at h2
    have h3 := List.append_cancel_left (h.trans (List.take_append_drop (l.length - 4) l).symm)
    exact h3.symm
  · intro h
    rw [← h, List.take_append_drop]

theorem isWhole_short (s : ByteArray) (h : s.size < 4) : isWhole s.data.toList = false := by
  rw [Lib.size_eq] at h
  unfold isWhole
  rw [decide_eq_false (by omega)]; rfl

/-- crc.Whole. -/
theorem whole_any (s : ByteArray) (w : World) (hs : s.size ≤ 100000) :
    Calls Try.prog 39 #[.string s] w fun e w' => WholeSays (body s) (isWhole s.data.toList) e ∧ Below w.heap.size w w' := by
  by_cases h4 : 4 ≤ s.size
  · have hm2 : (body s).size ≤ 100000 := by have := body_size s; omega
    have hm : (body s).size ≤ maxLen := by unfold maxLen; omega
    exact whole_core s (body s) (tail s) _ (crc (body s).data.toList) w hs h4 rfl rfl
      (fun W t => (sum_fresh _ (body s) W hm t).mono fun _ _ ⟨he, _, hk⟩ => ⟨he, hk⟩) (fun W => high_any _ (crc_lt _) W) _ (whole_eq s h4) hm2
  · refine (whole_short s w (by omega)).mono fun e w' ⟨he, hw⟩ => ⟨?_, hw ▸ Below.refl _ _⟩
    rw [isWhole_short s (by omega)]
    exact he

end Go.Proofs.Ytdkdkkledlolcaa.K
