/-
  Records of bytes (layer 7), no program: a record's bytes, what stands one behind the other, where no record begins, and that bytes say their records in one way. Condition: at most 100000 bytes.
-/
import Derived.Test.YtdkdkkledlolcaaKRefWhole
import Derived.Test.YtdkdkkledlolcaaDRefReads
namespace Go.Proofs.Ytdkdkkledlolcaa
open Go.RowKit

abbrev tl (t : ByteArray) : ByteArray := K.tailStr (K.Crc.crc (D.strB t).data.toList)
/-- A record's bytes. -/
def recB (t : ByteArray) : ByteArray := K.framed (D.strB t)
theorem recB_eq (t : ByteArray) : recB t = D.strB t ++ tl t := rfl
theorem tl_size (t : ByteArray) : (tl t).size = 4 := rfl
theorem strB_size (t : ByteArray) : (D.strB t).size = (D.Cod.enc t.size).length + t.size := by rw [D.strB, D.size_append', D.encB_size]
theorem recB_size (t : ByteArray) : (recB t).size = (D.strB t).size + 4 := by rw [recB_eq, D.size_append', tl_size]
theorem recB_most {t : ByteArray} (h : t.size ≤ 100000) : (recB t).size ≤ t.size + 14 := by
  rw [recB_size, strB_size]; have := D.Cod.enc_ten (n := t.size) (by omega); omega
theorem strB_least (t : ByteArray) : t.size < (D.strB t).size := by
  rw [strB_size]; have := D.Cod.enc_pos t.size; omega
theorem recB_least (t : ByteArray) : t.size + 5 ≤ (recB t).size := by
  rw [recB_size]; have := strB_least t; omega

/-- Records one behind the other. -/
def cat : List ByteArray → ByteArray
  | [] => ⟨#[]⟩
  | t :: l => recB t ++ cat l
/-- No record begins here. -/
def NoRec (R : ByteArray) : Prop := ∀ t Q, R ≠ recB t ++ Q

theorem nil_app (x : ByteArray) : (⟨#[]⟩ : ByteArray) ++ x = x := D.text_inj (by rw [D.bytes_append]; rfl)
theorem app_nil (x : ByteArray) : x ++ (⟨#[]⟩ : ByteArray) = x := D.text_inj (by rw [D.bytes_append]; exact List.append_nil _)
theorem cat_app (l m : List ByteArray) : cat (l ++ m) = cat l ++ cat m := by
  induction l with
  | nil => exact (nil_app _).symm
  | cons t l ih => show recB t ++ cat (l ++ m) = recB t ++ cat l ++ cat m; rw [ih, D.app_assoc]
theorem cat_snoc (l : List ByteArray) (t : ByteArray) : cat (l ++ [t]) = cat l ++ recB t := by
  rw [cat_app]; show cat l ++ (recB t ++ ⟨#[]⟩) = _; rw [app_nil]
theorem cat_len (l : List ByteArray) : l.length * 5 ≤ (cat l).size := by
  induction l with
  | nil => simp
  | cons t l ih => show (l.length + 1) * 5 ≤ (recB t ++ cat l).size; rw [D.size_append']; have := recB_least t; omega
theorem cat_in {l : List ByteArray} {t : ByteArray} (h : t ∈ l) : t.size + 5 ≤ (cat l).size := by
  induction l with
  | nil => simp at h
  | cons u l ih =>
    show _ ≤ (recB u ++ cat l).size
    rw [D.size_append']
    rcases List.mem_cons.1 h with rfl | h
    · have := recB_least t; omega
    · have := ih h; omega

/-- A text with its length is read as it was. -/
theorem str_form (t Q : ByteArray) (m : Int) (ht : t.size ≤ 100000) (hm : (t.size : Int) ≤ m) : D.strS ⟨D.strB t ++ Q, 0⟩ m = (t, ⟨Q, 0⟩) := by
  rw [D.strS, D.strB, D.app_assoc, D.uint_back _ _ (by omega)]
  dsimp only
  rw [D.strT_ok rfl (by unfold D.tooLong; simp; omega) (by dsimp only; rw [D.size_append']; omega)]
  dsimp only
  rw [D.take_append _ _ _ rfl, D.cut_append _ _ _ rfl]
theorem cut_all (x : ByteArray) (k : Nat) : x = x.extract 0 k ++ D.cutS x k :=
  D.text_inj (by rw [D.bytes_append, D.bytes_take, D.bytes_cut, List.take_append_drop])
/-- What isn't a text with its length isn't read. -/
theorem str_no (r : ByteArray) (m : Int) (h : ∀ t Q, r ≠ D.strB t ++ Q) : (D.strS ⟨r, 0⟩ m).2.e ≠ 0 := by
  obtain ⟨n, k, x, hn⟩ : ∃ n k x, D.Cod.num 0 0 (D.bytesOf r) = (n, k, x) := ⟨_, _, _, rfl⟩
  by_cases hx : x = 0
  · subst hx
    obtain ⟨n', k', hk, -, hle, hta, he, -, hlt⟩ := D.Cod.num_is (D.bytesOf r) 0 0 n k (by omega) (D.bytesOf_lt r) hn
    have ek : k = k' := by omega
    have en : n = n' := by simpa using he
    subst ek; subst en
    have hr : r = D.encB n ++ D.cutS r k := by
      refine (cut_all r k).trans ?_
      congr 1
      exact D.text_inj (by rw [D.bytes_take, D.bytes_enc, hta])
    rw [D.strS, D.uintS_ok (st := ⟨r, 0⟩) rfl hn]
    dsimp only
    by_cases hl : D.tooLong n m = true
    · rw [D.strT_long (st := ⟨D.cutS r k, 0⟩) rfl hl]; show (15 : Int) ≠ 0; omega
    · by_cases ht : ((D.cutS r k).size : Int) < n
      · rw [D.strT_torn (st := ⟨D.cutS r k, 0⟩) rfl hl ht]; show (4 : Int) ≠ 0; omega
      · exfalso
        have hsz : ((D.cutS r k).extract 0 n).size = n := D.size_take _ _ (by omega)
        refine h ((D.cutS r k).extract 0 n) (D.cutS (D.cutS r k) n) ?_
        rw [D.strB, hsz, D.app_assoc, ← cut_all]
        exact hr
  · have hn' : D.Cod.num 0 0 (D.bytesOf r) = (0, 0, x) := by
      rcases D.Cod.num_err (D.bytesOf r) 0 0 with h | h | h
      · rw [hn] at h; exact absurd h hx
      · rw [hn] at h; simp at h; rw [hn]; simp [h]
      · rw [hn] at h; simp at h; rw [hn]; simp [h]
    rw [D.strS, D.uintS_bad (st := ⟨r, 0⟩) rfl hx hn', D.strT_err _ (by show (x : Int) ≠ 0; omega)]
    show (x : Int) ≠ 0
    omega

theorem strB_inj {t u P Q : ByteArray} (ht : t.size ≤ 100000) (hu : u.size ≤ 100000) (h : D.strB t ++ P = D.strB u ++ Q) : t = u ∧ P = Q := by
  have h1 := str_form t P 100000 ht (by omega)
  have h2 := str_form u Q 100000 hu (by omega)
  rw [h, h2] at h1
  simp only [Prod.mk.injEq, D.St.mk.injEq, and_true] at h1
  exact ⟨h1.1.symm, h1.2.symm⟩
theorem app_left {x y z : ByteArray} (h : x ++ y = x ++ z) : y = z := by
  have := congrArg D.bytesOf h
  rw [D.bytes_append, D.bytes_append] at this
  exact D.text_inj (List.append_cancel_left this)
theorem recB_inj {t u P Q : ByteArray} (ht : t.size ≤ 100000) (hu : u.size ≤ 100000) (h : recB t ++ P = recB u ++ Q) : t = u ∧ P = Q := by
  rw [recB_eq, recB_eq, D.app_assoc, D.app_assoc] at h
  obtain ⟨rfl, h2⟩ := strB_inj ht hu h
  exact ⟨rfl, app_left h2⟩

/-- Bytes say their records in one way. -/
theorem scan_one : ∀ (l m : List ByteArray) (P Q : ByteArray), (cat l ++ P).size ≤ 100000 → NoRec P → NoRec Q → cat l ++ P = cat m ++ Q → l = m ∧ P = Q := by
  intro l
  induction l with
  | nil =>
    intro m P Q hs hP hQ h
    cases m with
    | nil => rw [show cat [] = ⟨#[]⟩ from rfl, nil_app, nil_app] at h; exact ⟨rfl, h⟩
    | cons u m =>
      rw [show cat [] = ⟨#[]⟩ from rfl, nil_app] at h
      exact absurd (h.trans (D.app_assoc (recB u) (cat m) Q)) (hP _ _)
  | cons t l ih =>
    intro m P Q hs hP hQ h
    cases m with
    | nil =>
      rw [show cat [] = ⟨#[]⟩ from rfl, nil_app] at h
      exact absurd (h.symm.trans (D.app_assoc (recB t) (cat l) P)) (hQ _ _)
    | cons u m =>
      have hs1 := hs
      rw [h] at hs1
      have e : recB t ++ (cat l ++ P) = recB u ++ (cat m ++ Q) := by
        rw [← D.app_assoc, ← D.app_assoc]; exact h
      have z1 : (recB t ++ cat l ++ P).size ≤ 100000 := hs
      have z2 : (recB u ++ cat m ++ Q).size ≤ 100000 := hs1
      rw [D.size_append', D.size_append'] at z1 z2
      have a1 := recB_least t
      have a2 := recB_least u
      obtain ⟨rfl, e2⟩ := recB_inj (by omega) (by omega) e
      obtain ⟨rfl, e3⟩ := ih m P Q (by rw [D.size_append']; omega) hP hQ e2
      exact ⟨rfl, e3⟩

/-- All bytes say some records. -/
theorem scan_ex : ∀ (n : Nat) (s : ByteArray), s.size ≤ n → ∃ l Q, s = cat l ++ Q ∧ NoRec Q := by
  intro n
  induction n with
  | zero =>
    intro s hs
    refine ⟨[], s, (nil_app s).symm, fun t Q h => ?_⟩
    have := congrArg ByteArray.size h
    rw [D.size_append'] at this
    have := recB_least t
    omega
  | succ n ih =>
    intro s hs
    by_cases h : ∃ t Q, s = recB t ++ Q
    · obtain ⟨t, Q, rfl⟩ := h
      have a := recB_least t
      rw [D.size_append'] at hs
      obtain ⟨l, R, rfl, hR⟩ := ih Q (by omega)
      exact ⟨t :: l, R, (D.app_assoc _ _ _).symm, hR⟩
    · exact ⟨[], s, (nil_app s).symm, fun t Q e => h ⟨t, Q, e⟩⟩

theorem noRec_nil : NoRec ⟨#[]⟩ := by
  intro t Q h
  have := congrArg ByteArray.size h
  rw [D.size_append'] at this
  have := recB_least t
  have : (⟨#[]⟩ : ByteArray).size = 0 := rfl
  omega
/-- A record that is cut off is none. -/
theorem noRec_cut (s : ByteArray) (k : Nat) (hs : s.size ≤ 90000) (hk : k < (recB s).size) : NoRec ((recB s).extract 0 k) := by
  intro t Q h
  have e : recB s ++ ⟨#[]⟩ = recB t ++ (Q ++ D.cutS (recB s) k) := by
    rw [app_nil, ← D.app_assoc, ← h]; exact cut_all _ _
  have hz := congrArg ByteArray.size h
  rw [D.size_take _ _ (by omega), D.size_append'] at hz
  have a := recB_least t
  have b := recB_most (t := s) (by omega)
  obtain ⟨rfl, -⟩ := recB_inj (by omega) (by omega) e
  omega
theorem noRec_str {t Q : ByteArray} (hz : (D.strB t ++ Q).size ≤ 100000) (h : Q.size < 4 ∨ Q.extract 0 4 ≠ tl t) : NoRec (D.strB t ++ Q) := by
  intro u P e
  rw [recB_eq, D.app_assoc] at e
  have z2 := hz
  rw [e, D.size_append'] at z2
  rw [D.size_append'] at hz
  have a1 := strB_least t
  have a2 := strB_least u
  obtain ⟨rfl, rfl⟩ := strB_inj (by omega) (by omega) e
  rcases h with h | h
  · rw [D.size_append', tl_size] at h; omega
  · exact h (D.take_append _ _ _ rfl)
theorem noRec_no {r : ByteArray} (h : ∀ t Q, r ≠ D.strB t ++ Q) : NoRec r := fun t Q e => h t (tl t ++ Q) (by rw [e, recB_eq, D.app_assoc])

/-- Records that are cut off somewhere say a beginning of them. -/
theorem cat_cut : ∀ (l : List ByteArray) (c : Nat), (∀ t ∈ l, t.size ≤ 90000) → c < (cat l).size → ∃ j, j < l.length ∧ ∃ Q, (cat l).extract 0 c = cat (l.take j) ++ Q ∧ NoRec Q := by
  intro l
  induction l with
  | nil => intro c _ h; exact absurd h (by show ¬ c < 0; omega)
  | cons t l ih =>
    intro c hl hc
    have hc' : c < (recB t ++ cat l).size := hc
    rw [D.size_append'] at hc'
    show ∃ j, j < l.length + 1 ∧ ∃ Q, (recB t ++ cat l).extract 0 c = _ ∧ NoRec Q
    by_cases h : c < (recB t).size
    · refine ⟨0, by omega, (recB t).extract 0 c, ?_, noRec_cut t c (hl t (by simp)) h⟩
      rw [D.take_in _ _ _ h]; exact (nil_app _).symm
    · obtain ⟨j, hj, Q, e, hQ⟩ := ih (c - (recB t).size) (fun u hu => hl u (by simp [hu])) (by omega)
      refine ⟨j + 1, by omega, Q, ?_, hQ⟩
      rw [D.take_past _ _ _ h, e]
      exact (D.app_assoc _ _ _).symm
end Go.Proofs.Ytdkdkkledlolcaa
