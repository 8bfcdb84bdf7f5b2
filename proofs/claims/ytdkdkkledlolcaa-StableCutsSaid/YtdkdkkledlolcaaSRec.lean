/-
  stable.Bytes, the document's Bytes, and stable.record: the record at the beginning of what a reader has left, or none. Condition: at most 90000 bytes (a text), 100000 (what is left).
-/
import Derived.Test.YtdkdkkledlolcaaSMath
namespace Go.Proofs.Ytdkdkkledlolcaa
open Go.RowKit
set_option maxRecDepth 100000

theorem strB_most {s : ByteArray} (hs : s.size ≤ 90000) : (D.strB s).size ≤ 100000 := by
  rw [strB_size]; have := D.Cod.enc_ten (n := s.size) (by omega); omega

theorem bytes_any (s : ByteArray) (w : World) (hs : s.size ≤ 90000) :
    Calls Try.prog 22 #[.string s] w fun e w' => e = .returned (.string (recB s)) ∧ Below w.heap.size w w' := by
  have hz := strB_most hs
  go_enter Try.func22, Try.ntmps22
  go_wp2_with fail
  refine (D.str_any s _ (by omega)).mono ?_
  rintro e w1 ⟨rfl, b1⟩
  replace b1 := Lib.hid b1
  go_wp2_with fail
  refine (K.frame_any (D.strB s) _ hz).mono ?_
  rintro e w2 ⟨rfl, b2⟩
  replace b2 := Lib.hid (b1.out.trans (b2.mono b1.out.size))
  go_wp2_with fail
  go_ret
  exact ⟨rfl, b2.out⟩

theorem refBytes_any (s : ByteArray) (w : World) (hs : s.size ≤ 90000) :
    Calls Try.prog 24 #[.string s] w fun e w' => e = .returned (.string (recB s)) ∧ Below w.heap.size w w' := by
  have hz := strB_most hs
  go_enter Try.func24, Try.ntmps24
  go_wp2_with fail
  refine (D.refStr_any s _ (by omega)).mono ?_
  rintro e w1 ⟨rfl, b1⟩
  replace b1 := Lib.hid b1
  go_wp2_with fail
  refine (K.refFrame_any (D.strB s) _ hz).mono ?_
  rintro e w2 ⟨rfl, b2⟩
  replace b2 := Lib.hid (b1.out.trans (b2.mono b1.out.size))
  go_wp2_with fail
  go_ret
  exact ⟨rfl, b2.out⟩

/-- So many bytes read. -/
def dropB : Nat → D.St → D.St
  | 0, st => st
  | k + 1, st => (D.byteS (dropB k st)).2

theorem dropB_err {st : D.St} (h : st.e ≠ 0) (k : Nat) : dropB k st = st := by
  induction k with
  | zero => rfl
  | succ k ih => rw [dropB, ih, D.byteS_err h]
theorem dropB_ok (Q : ByteArray) (k : Nat) (h : k ≤ Q.size) : dropB k ⟨Q, 0⟩ = ⟨D.cutS Q k, 0⟩ := by
  induction k with
  | zero => show (⟨Q, 0⟩ : D.St) = _; rw [show D.cutS Q 0 = Q from D.text_inj (by rw [D.bytes_cut]; rfl)]
  | succ k ih =>
    rw [dropB, ih (by omega), D.byteS_one (st := ⟨D.cutS Q k, 0⟩) rfl (by show 0 < (D.cutS Q k).size; rw [D.cutS_size]; omega)]
    show (⟨D.cutS (D.cutS Q k) 1, 0⟩ : D.St) = _
    rw [D.cut_cut]
theorem dropB_torn (Q : ByteArray) (h : Q.size < 4) : (dropB 4 ⟨Q, 0⟩).e ≠ 0 := by
  have hs : ∀ m, (dropB (Q.size + 1 + m) ⟨Q, 0⟩).e ≠ 0 := by
    intro m
    induction m with
    | zero =>
      rw [Nat.add_zero, dropB, dropB_ok Q Q.size (Nat.le_refl _), D.byteS_none (st := ⟨D.cutS Q Q.size, 0⟩) rfl (by show (D.cutS Q Q.size).size = 0; rw [D.cutS_size]; omega)]
      show (4 : Int) ≠ 0
      omega
    | succ m ih =>
      rw [show Q.size + 1 + (m + 1) = Q.size + 1 + m + 1 by omega, dropB, D.byteS_err ih]
      exact ih
  have := hs (3 - Q.size)
  rw [show Q.size + 1 + (3 - Q.size) = 4 by omega] at this
  exact this

set_option maxHeartbeats 800000 in
theorem record_err (b : Nat) (R : ByteArray) (w : World) (t : D.Rd w b ⟨R, 0⟩) (hR : R.size ≤ 100000) (h : (dropB 4 (D.strS ⟨R, 0⟩ R.size).2).e ≠ 0) :
    Calls Try.prog 27 #[.pointer (some ⟨b, 0, none⟩), .string R] w fun e w' => e = .returned (.tuple #[.string ⟨#[]⟩, .bool false]) ∧ D.Kept b w w' := by
  have hstr := Lib.hid (D.str_all b ⟨R, 0⟩ R.size w (by omega) (by omega) t)
  generalize (D.strS ⟨R, 0⟩ R.size).1 = txt at *
  generalize (D.strS ⟨R, 0⟩ R.size).2 = st1 at *
  have e0 : ((dropB 4 st1).e != 0) = true := by simpa using h
  replace t := Lib.hid t
  replace h := Lib.hid h
  go_enter Try.func27, Try.ntmps27
  go_wp2_with fail
  refine hstr.out.mono ?_
  rintro e w1 ⟨rfl, t1, k1⟩
  replace t1 := Lib.hid t1
  replace k1 := Lib.hid k1
  clear hstr t
  go_wp2_with fail
  go_loopw [13] (fun i wr => ∃ k : Nat, k ≤ 4 ∧ i = .int .i64 k ∧ Hid (D.Rd wr b (dropB k st1)) ∧ Hid (D.Kept b w wr)) (fun i _ => 4 - (intOf i).toNat)
  case atStart => exact ⟨0, by omega, rfl, t1, k1⟩
  case round =>
    obtain ⟨k, hk, rfl, tr, kr⟩ := hrel
    clear t1 k1
    by_cases hlt : k < 4
    · go_wp2_with fail
      refine (D.byte_all b _ _ tr.out).mono ?_
      rintro e w2 ⟨rfl, t2, k2⟩
      replace t2 := Lib.hid t2
      replace k2 := Lib.hid (kr.out.trans k2)
      clear tr kr
      go_wp2_with fail
      refine ⟨⟨k + 1, by omega, by go_num, t2, k2⟩, ?_⟩
      simp [intOf]; omega
    · obtain rfl : k = 4 := by omega
      go_wp2_with fail
      refine (D.err_any b _ _ tr.out).mono ?_
      rintro e w' ⟨rfl, rfl⟩
      go_wp2_with fail
      go_ret2
      exact ⟨rfl, kr.out⟩

set_option maxHeartbeats 800000 in
theorem record_ok (b : Nat) (R Q X txt : ByteArray) (w : World) (t : D.Rd w b ⟨R, 0⟩) (hR : R.size ≤ 100000) (ht : (D.strS ⟨R, 0⟩ R.size).1 = txt) (h : dropB 4 (D.strS ⟨R, 0⟩ R.size).2 = ⟨Q, 0⟩) (hQ : Q.size ≤ R.size) (hX : R.extract 0 (R.size - Q.size) = X) (q : Bool) (hq : K.isWhole X.data.toList = q) :
    Calls Try.prog 27 #[.pointer (some ⟨b, 0, none⟩), .string R] w fun e w' => e = .returned (.tuple #[.string txt, .bool q]) ∧ D.Rd w' b ⟨Q, 0⟩ ∧ D.Kept b w w' := by
  have hstr := Lib.hid (D.str_all b ⟨R, 0⟩ R.size w (by omega) (by omega) t)
  rw [ht] at hstr
  clear ht
  generalize (D.strS ⟨R, 0⟩ R.size).2 = st1 at *
  have hXs : X.size ≤ 100000 := by rw [← hX, D.size_take _ _ (by omega)]; omega
  have hle : (Q.size : Int) ≤ R.size := by omega
  replace hq := Lib.hid hq
  have hg0 : (0 : Int) ≤ (R.size : Int) - Q.size := by omega
  replace t := Lib.hid t
  replace h := Lib.hid h
  go_enter Try.func27, Try.ntmps27
  go_wp2_with fail
  refine hstr.out.mono ?_
  rintro e w1 ⟨rfl, t1, k1⟩
  replace t1 := Lib.hid t1
  replace k1 := Lib.hid k1
  clear hstr t
  go_wp2_with fail
  go_loopw [13] (fun i wr => ∃ k : Nat, k ≤ 4 ∧ i = .int .i64 k ∧ Hid (D.Rd wr b (dropB k st1)) ∧ Hid (D.Kept b w wr)) (fun i _ => 4 - (intOf i).toNat)
  case atStart => exact ⟨0, by omega, rfl, t1, k1⟩
  case round =>
    obtain ⟨k, hk, rfl, tr, kr⟩ := hrel
    clear t1 k1
    by_cases hlt : k < 4
    · go_wp2_with fail
      refine (D.byte_all b _ _ tr.out).mono ?_
      rintro e w2 ⟨rfl, t2, k2⟩
      replace t2 := Lib.hid t2
      replace k2 := Lib.hid (kr.out.trans k2)
      clear tr kr
      go_wp2_with fail
      refine ⟨⟨k + 1, by omega, by go_num, t2, k2⟩, ?_⟩
      simp [intOf]; omega
    · obtain rfl : k = 4 := by omega
      have tr' := tr.out
      rw [h.out] at tr'
      replace tr' := Lib.hid tr'
      clear tr
      go_wp2_with fail
      refine (D.err_any b _ _ tr'.out).mono ?_
      rintro e w' ⟨rfl, rfl⟩
      go_wp2_with fail
      refine (D.left_any b _ _ tr'.out).mono ?_
      rintro e w' ⟨rfl, rfl⟩
      rw [show D.leftS ⟨Q, 0⟩ = (Q.size : Int) from rfl]
      go_wp2_with fail
      refine (K.whole_any X _ hXs).mono ?_
      rintro e w3 ⟨he, b3⟩
      have he' : e = .returned (.tuple #[.string (bif K.isWhole X.data.toList then K.body X else ⟨#[]⟩), .bool (K.isWhole X.data.toList)]) := he
      clear he
      rw [hq.out] at he'
      subst he'
      replace tr' := Lib.hid (tr'.out.below b3)
      replace kr := Lib.hid (kr.out.trans (D.Kept.ofBelow b3))
      clear b3
      generalize (bif q then K.body X else ⟨#[]⟩) = Y at *
      go_wp2_with fail
      go_ret2
      exact ⟨rfl, tr'.out, kr.out⟩

/-- What is said of the record at the beginning of R: there is one, and the reader is behind it; or there is none. -/
def RecSays (b : Nat) (R : ByteArray) (e : Ending) (w' : World) : Prop :=
  (∃ t Q, R = recB t ++ Q ∧ e = .returned (.tuple #[.string t, .bool true]) ∧ D.Rd w' b ⟨Q, 0⟩) ∨ (NoRec R ∧ ∃ t, e = .returned (.tuple #[.string t, .bool false]))

theorem isWhole_tl (x y : ByteArray) (h : y.size = 4) : K.isWhole (x ++ y).data.toList = true ↔ y = K.tailStr (K.Crc.crc x.data.toList) := by
  have hd : (x ++ y).data.toList = x.data.toList ++ y.data.toList := by rw [ByteArray.data_append]; simp
  have hy : y.data.toList.length = 4 := by rw [← h]; rfl
  unfold K.isWhole
  rw [hd, List.length_append, hy, Nat.add_sub_cancel, List.drop_left, List.take_left, decide_eq_true (by omega), Bool.true_and, beq_iff_eq]
  constructor
  · intro e
    apply WideShapes.bytes_inj
    exact e
  · intro e
    rw [e]; rfl

theorem record_any (b : Nat) (R : ByteArray) (w : World) (t : D.Rd w b ⟨R, 0⟩) (hR : R.size ≤ 100000) :
    Calls Try.prog 27 #[.pointer (some ⟨b, 0, none⟩), .string R] w fun e w' => RecSays b R e w' ∧ D.Kept b w w' := by
  by_cases hf : ∃ t Q, R = D.strB t ++ Q
  · obtain ⟨x, Q, hx⟩ := hf
    have hz : x.size ≤ R.size := by rw [hx, D.size_append']; have := strB_least x; omega
    have hs : D.strS ⟨R, 0⟩ R.size = (x, ⟨Q, 0⟩) := by
      have := str_form x Q R.size (by omega) (by omega)
      rw [← hx] at this
      exact this
    have hzR : R.size = (D.strB x).size + Q.size := by rw [hx, D.size_append']
    by_cases h4 : Q.size < 4
    · refine (record_err b R w t hR (by rw [hs]; exact dropB_torn Q h4)).mono fun e w' ⟨he, hk⟩ => ⟨Or.inr ⟨?_, _, he⟩, hk⟩
      have := noRec_str (t := x) (Q := Q) (by rw [← hx]; exact hR) (Or.inl h4)
      rw [← hx] at this
      exact this
    · have hX : R.extract 0 (R.size - (D.cutS Q 4).size) = D.strB x ++ Q.extract 0 4 := by
        rw [D.cutS_size, hzR, hx, D.take_past _ _ _ (by omega)]
        congr 2
        omega
      refine (record_ok b R (D.cutS Q 4) _ x w t hR (by rw [hs]) (by rw [hs]; exact dropB_ok Q 4 (by omega)) (by rw [D.cutS_size]; omega) hX _ rfl).mono fun e w' ⟨he, ht', hk⟩ => ⟨?_, hk⟩
      by_cases hq : K.isWhole (D.strB x ++ Q.extract 0 4).data.toList = true
      · rw [hq] at he
        have e4 := (isWhole_tl _ _ (D.size_take Q 4 (by omega))).1 hq
        refine Or.inl ⟨x, D.cutS Q 4, ?_, he, ht'⟩
        rw [recB_eq, D.app_assoc, show tl x = Q.extract 0 4 from e4.symm, ← cut_all, hx]
      · have hq' := hq
        rw [Bool.not_eq_true] at hq'
        rw [hq'] at he
        refine Or.inr ⟨?_, x, he⟩
        have := noRec_str (t := x) (Q := Q) (by rw [← hx]; exact hR) (Or.inr fun e4 => hq ((isWhole_tl _ _ (D.size_take Q 4 (by omega))).2 e4))
        rw [← hx] at this
        exact this
  · have hf' : ∀ t Q, R ≠ D.strB t ++ Q := fun t Q e => hf ⟨t, Q, e⟩
    have he := str_no R R.size hf'
    refine (record_err b R w t hR (by rw [dropB_err he]; exact he)).mono fun e w' ⟨he, hk⟩ => ⟨Or.inr ⟨noRec_no hf', _, he⟩, hk⟩
end Go.Proofs.Ytdkdkkledlolcaa
