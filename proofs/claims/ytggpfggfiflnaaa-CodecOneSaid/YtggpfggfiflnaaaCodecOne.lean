/-
  CodecOne holds: bytes that are a number are those that it is written in; unlike numbers have unlike bytes; a reader that is none answers zero. No condition.
-/
import Derived.Test.YtggpfggfiflnaaaAwake
import Derived.ProofKit
import Derived.OpenShut
import Derived.ShutString
namespace Go.Proofs.Ytggpfggfiflnaaa.codecOne
open Go.ChangeShapes Go.WideShapes Go.ChangeAt Go.RowKit Cod
open Go.ChangeMaps (open_string shut_string)

theorem own : ownKnob Try.prog.godebug = none := by kernel_rfl

set_option maxHeartbeats 400000 in
theorem walk_long (s : ByteArray) (a b : Int) (w : World) (h : 100 < s.size) :
    Calls Try.prog 6 #[.string s, .int .u64 a, .int .u64 b] w fun e w' => e = .returned (.bool true) ∧ Below w.heap.size w w' := by
  go_enter Try.func6, Try.ntmps6
  go_wp2_with fail
  refine (awake_any _).mono ?_
  rintro e w1 ⟨rfl, b1⟩
  replace b1 := Lib.hid b1
  go_wp2_with fail
  refine (awake_any _).mono ?_
  rintro e w2 ⟨rfl, k2⟩
  have b2 := Lib.hid (b1.out.trans (k2.mono b1.out.size))
  clear k2 b1
  go_wp2_with fail
  go_ret
  exact ⟨rfl, b2.out⟩

set_option maxHeartbeats 800000 in
/-- Behind what was read of s: the rest. -/
theorem walk_tail (s A B : ByteArray) (a b : Nat) (q : Bool) (w : World) (h : s.size ≤ 100) (e1 : (A.toList == B.toList) = q) (e2 : ((a : Int) == (b : Int)) = q)
    (st : St) (n : Nat) (N : ByteArray)
    (hu : Hid (∀ W p, Rd W p ⟨s, 0⟩ → Calls Try.prog 17 #[.pointer (some ⟨p, 0, none⟩)] W fun e w' => e = .returned (.int .u64 n) ∧ Rd w' p st ∧ Kept p W w'))
    (hN : ∀ W, Hid (Calls Try.prog 10 #[.int .u64 n] W fun e w' => e = .returned (.string N) ∧ Below W.heap.size W w'))
    (l : Nat) (hk : l ≤ s.size) (hst : Hid (st.e = 0 → leftS st = (l : Int) ∧ (N.toList == (s.extract 0 (s.size - l)).toList) = true))
    (ca : ∀ W, Hid (Calls Try.prog 10 #[.int .u64 a] W fun e w' => e = .returned (.string A) ∧ Below W.heap.size W w'))
    (cb : ∀ W, Hid (Calls Try.prog 10 #[.int .u64 b] W fun e w' => e = .returned (.string B) ∧ Below W.heap.size W w')) :
    Calls Try.prog 6 #[.string s, .int .u64 a, .int .u64 b] w fun e w' => e = .returned (.bool true) ∧ Below w.heap.size w w' := by
  have Ca := Lib.hid ca
  have Cb := Lib.hid cb
  have CN := Lib.hid hN
  clear ca cb hN
  go_enter Try.func6, Try.ntmps6
  go_wp2_with fail
  refine (awake_any _).mono ?_
  rintro e w1 ⟨rfl, b1⟩
  replace b1 := Lib.hid b1
  go_wp2_with fail
  refine (read_any s _ (by omega)).mono ?_
  rintro e w2 ⟨p, rfl, hp, t2, k2⟩
  have b2 := Lib.hid (b1.out.trans (k2.mono b1.out.size))
  replace hp := Lib.hid (Nat.le_trans b1.out.size hp)
  replace t2 := Lib.hid t2
  clear k2 b1
  go_wp2_with fail
  refine (hu.out _ _ t2.out).mono ?_
  rintro e w3 ⟨rfl, t3, k3⟩
  have b3 := Lib.hid (b2.out.trans (k3.below hp.out b2.out.size))
  replace t3 := Lib.hid t3
  clear k3 b2 t2 hu
  go_wp2_with fail
  refine (err_any _ _ _ t3.out).mono ?_
  rintro e w' ⟨rfl, rfl⟩
  by_cases h0 : st.e = 0
  · have e0 : (st.e == 0) = true := by simpa using h0
    obtain ⟨hl, hNk⟩ := hst.out h0
    replace h0 := Lib.hid h0
    go_wp2_with fail
    refine (CN.out _).out.mono ?_
    rintro e w4 ⟨rfl, k4⟩
    have b4 := Lib.hid (b3.out.trans (k4.mono b3.out.size))
    replace t4 := Lib.hid (t3.out.below k4)
    clear k4 b3 t3
    go_wp2_with fail
    refine (left_any _ _ _ t4.out).mono ?_
    rw [hl]
    rintro e w' ⟨rfl, rfl⟩
    go_wp2_with fail
    refine (Ca.out _).out.mono ?_
    rintro e w5 ⟨rfl, k5⟩
    have b5 := Lib.hid (b4.out.trans (k5.mono b4.out.size))
    clear k5 b4
    go_wp2_with fail
    refine (Cb.out _).out.mono ?_
    rintro e w6 ⟨rfl, k6⟩
    have b6 := Lib.hid (b5.out.trans (k6.mono b5.out.size))
    clear k6 b5
    go_wp2_with fail
    refine (uint_nil _).mono ?_
    rintro e w' ⟨rfl, rfl⟩
    go_wp2_with fail
    refine (str_nil _).mono ?_
    rintro e w' ⟨rfl, rfl⟩
    go_wp2_with fail
    refine (err_nil _).mono ?_
    rintro e w' ⟨rfl, rfl⟩
    go_wp2_with fail
    refine (left_nil _).mono ?_
    rintro e w' ⟨rfl, rfl⟩
    go_wp2_with fail
    go_ret
    exact ⟨rfl, b6.out⟩
  · have e0 : (st.e == 0) = false := by simpa using h0
    replace h0 := Lib.hid h0
    go_wp2_with fail
    refine (Ca.out _).out.mono ?_
    rintro e w5 ⟨rfl, k5⟩
    have b5 := Lib.hid (b3.out.trans (k5.mono b3.out.size))
    clear k5 b3
    go_wp2_with fail
    refine (Cb.out _).out.mono ?_
    rintro e w6 ⟨rfl, k6⟩
    have b6 := Lib.hid (b5.out.trans (k6.mono b5.out.size))
    clear k6 b5
    go_wp2_with fail
    refine (uint_nil _).mono ?_
    rintro e w' ⟨rfl, rfl⟩
    go_wp2_with fail
    refine (str_nil _).mono ?_
    rintro e w' ⟨rfl, rfl⟩
    go_wp2_with fail
    refine (err_nil _).mono ?_
    rintro e w' ⟨rfl, rfl⟩
    go_wp2_with fail
    refine (left_nil _).mono ?_
    rintro e w' ⟨rfl, rfl⟩
    go_wp2_with fail
    go_ret
    exact ⟨rfl, b6.out⟩

theorem text_eq {x y : ByteArray} (h : x = y) : (x.toList == y.toList) = true := by subst h; simp

theorem bytes_inj {x y : ByteArray} (h : bytesOf x = bytesOf y) : x = y := by
  apply WideShapes.bytes_inj
  have h2 : x.data.toList.map UInt8.toNat = y.data.toList.map UInt8.toNat := h
  exact (List.map_inj_right (fun a b e => UInt8.toNat_inj.1 e)).1 h2

theorem bytesOf_encB (n : Nat) : bytesOf (encB n) = enc n := by
  have h := enc_byte n
  unfold bytesOf encB
  rw [strOfNums_data, nums, List.map_map, List.map_map]
  refine (List.map_congr_left fun x hx => ?_).trans (List.map_id _)
  have := h x hx
  simp
  omega

theorem bytesOf_take (s : ByteArray) (k : Nat) : bytesOf (s.extract 0 k) = (bytesOf s).take k := by
  unfold bytesOf
  rw [ByteArray.data_extract]
  simp [List.map_take]

/-- Bytes that are a number are those that it is written in. -/
theorem is_written {s : ByteArray} {n k : Nat} (h : num 0 0 (bytesOf s) = (n, k, 0)) : encB n = s.extract 0 k ∧ k ≤ s.size := by
  obtain ⟨m, k', rfl, -, hk, ht, rfl, -, -⟩ := num_is (bytesOf s) 0 0 n k (by omega) (bytesOf_lt s) h
  rw [bytesOf_len] at hk
  simp only [Nat.zero_add] at *
  refine ⟨bytes_inj ?_, hk⟩
  rw [bytesOf_encB, bytesOf_take, ht]
  simp

theorem walk (a0 : ByteArray) (a1 : Int) (a2 : Int) (_ : a0.size ≤ maxLen) (w1 : (Lit.int .u64 a1).wf = true) (w2 : (Lit.int .u64 a2).wf = true) (w : World) :
    Calls Try.prog 6 #[.string a0, .int .u64 a1, .int .u64 a2] w fun e w' => e = .returned (.bool true) ∧ Below w.heap.size w w' := by
  by_cases hl : 100 < a0.size
  · exact walk_long a0 a1 a2 w hl
  · have h0 : 0 ≤ a1 ∧ a1 ≤ 18446744073709551615 := by simpa [Lit.wf, IntKind.min, IntKind.max, IntKind.signed, IntKind.bits] using w1
    have h1 : 0 ≤ a2 ∧ a2 ≤ 18446744073709551615 := by simpa [Lit.wf, IntKind.min, IntKind.max, IntKind.signed, IntKind.bits] using w2
    obtain ⟨a, rfl⟩ : ∃ a : Nat, a1 = (a : Int) := ⟨a1.toNat, by omega⟩
    obtain ⟨b, rfl⟩ : ∃ b : Nat, a2 = (b : Int) := ⟨a2.toNat, by omega⟩
    have hq : ((encB a).toList == (encB b).toList) = ((a : Int) == (b : Int)) := by
      by_cases e : a = b
      · subst e; simp
      · have h1 : ((a : Int) == (b : Int)) = false := by simp; omega
        rw [h1]
        simp only [beq_eq_false_iff_ne]
        intro h
        rw [ByteArray.toList_eq, ByteArray.toList_eq] at h
        have h2 := congrArg bytesOf (WideShapes.bytes_inj h)
        rw [bytesOf_encB, bytesOf_encB] at h2
        exact e (enc_inj (by omega) (by omega) h2)
    obtain ⟨d, hd, hdl⟩ := uintS_nat ⟨a0, 0⟩
    obtain ⟨n, k, x, hn⟩ : ∃ n k x, num 0 0 (bytesOf a0) = (n, k, x) := ⟨_, _, _, rfl⟩
    have hu : Hid (∀ W p, Rd W p ⟨a0, 0⟩ → Calls Try.prog 17 #[.pointer (some ⟨p, 0, none⟩)] W fun e w' => e = .returned (.int .u64 d) ∧ Rd w' p (uintS ⟨a0, 0⟩).2 ∧ Kept p W w') := fun W p t => by
      have := uint_all p _ W t; rw [hd] at this; exact this
    refine walk_tail a0 (encB a) (encB b) a b _ w (by omega) hq rfl (uintS ⟨a0, 0⟩).2 d (encB d) hu (fun W => uint_any d W hdl) (leftS (uintS ⟨a0, 0⟩).2).toNat ?_ ?_ (fun W => uint_any a W (by omega)) (fun W => uint_any b W (by omega))
    · by_cases hx : x = 0
      · subst hx
        rw [uintS_ok (st := ⟨a0, 0⟩) rfl hn]
        simp [leftS, cutS_size]
      · rw [uintS, if_pos rfl]
        simp only [hn]
        rw [if_neg hx, leftS, if_neg (by simpa using hx)]
        simp
    · intro he
      by_cases hx : x = 0
      · subst hx
        have hw := is_written hn
        have hu := uintS_ok (st := ⟨a0, 0⟩) rfl hn
        rw [hu] at hd ⊢
        have hdn : d = n := by simp at hd; omega
        subst hdn
        have hlf : leftS ⟨cutS a0 k, 0⟩ = ((a0.size - k : Nat) : Int) := by rw [leftS, if_pos rfl, cutS_size]
        rw [hlf]
        refine ⟨rfl, text_eq ?_⟩
        rw [hw.1, Int.toNat_natCast, show a0.size - (a0.size - k) = k by omega]
      · exfalso
        rw [uintS, if_pos rfl] at he
        simp only [hn] at he
        rw [if_neg hx] at he
        simp at he
        exact hx he

set_option maxRecDepth 100000 in
theorem lifted (os : Os) (started : os.Started) (H : Type) (enc : TypeId × Value → H) :
    ReturnsInHanded {} Try.checked os 6 .any (Rows.codecOneSpec.pre6 enc Try.prog Try.f6 Rows.codecOneRow.domain false) (Rows.codecOneSpec.post enc Try.prog Try.f6 false true false false) := by
  refine returnsInHanded_of_change (C := Try.checked) own started (by kernel_rfl) Try.func6
    (ChangeSpec.witness6 (enc := enc) (C := Try.checked) false ⟨#[], #[.string ByteArray.empty, .int .u64 0, .int .u64 0], []⟩ 8 (by kernel_rfl) (by kernel_rfl) (by kernel_rfl) (by kernel_rfl)) ?_
  intro W base args ds gs before hval0 hW _ _
  have hval : ∀ (j : Nat) t v, Try.f6.params[j]? = some t → args[j]? = some v → Value.okWide Try.prog W .any base t v := hval0
  have hW' := hW
  obtain ⟨p, q, hA0, hV, rfl, hfz, hnd⟩ := hW
  have hA : DataW.TrodAll enc Try.prog W 0 (fun _ => true) true Try.f6.params.toList args.toList ds p := hA0
  rw [Try.params6] at hA hval
  obtain ⟨v0, vs0, d0, ds0, p0, q0, hargs, rfl, rfl, h0, r0⟩ := trodAll_cons hA
  obtain ⟨v1, vs1, d1, ds1, p1, q1, rfl, rfl, rfl, h1, r1⟩ := trodAll_cons r0
  obtain ⟨v2, vs2, d2, ds2, p2, q2, rfl, rfl, rfl, h2, r2⟩ := trodAll_cons r1
  obtain ⟨rfl, rfl, rfl⟩ := trodAll_nil r2
  obtain rfl : args = #[v0, v1, v2] := by cases args; simp_all
  obtain ⟨rfl, rfl⟩ := trodVars_none hV
  obtain ⟨a0, rfl, rfl, rfl, w0⟩ := open_string Try.underlying9 (hval 0 9 v0 rfl rfl) h0
  obtain ⟨a1, rfl, rfl, rfl, w1⟩ := open_int Try.underlying22 (hval 1 22 v1 rfl rfl) h1
  obtain ⟨a2, rfl, rfl, rfl, w2⟩ := open_int Try.underlying22 (hval 2 22 v2 rfl rfl) h2
  clear hA0 hval0
  simp only [List.append_nil] at hW'
  refine (walk a0 a1 a2 w0 w1 w2 W).mono fun e W' ⟨he, hg⟩ => ?_
  subst he
  exact ⟨_, rfl, _, _, _, [], [], [], hW', trodAll_cons_mk (shut_bool Try.underlying4 _) trodAll_mk0, trodAll_cons_mk (shut_string Try.underlying9 w0) (trodAll_cons_mk (shut_int Try.underlying22 w1) (trodAll_cons_mk (shut_int Try.underlying22 w2) trodAll_mk0)), rfl, hg.frame _, fun h => by cases h⟩

theorem over : Rows.codecOneRow.holds Try.pinned (OpenSpec.ofChange Rows.codecOneSpec) :=
  OpenClaim.holds_of_wide 6 Try.f6 rfl rfl rfl rfl rfl rfl rfl ⟨rfl, rfl, rfl, rfl, rfl⟩ rfl rfl rfl rfl rfl (by kernel_rfl) Try.func6 (by kernel_rfl)
    (of_decide_eq_true (by kernel_rfl)) (by unfold Func.isWrapper; first | (rw [if_pos (by decide +kernel)]; kernel_rfl) | (rw [if_neg (by decide +kernel)]; exact ⟨rfl, rfl⟩))
    (fun os started H enc _ => lifted os started H enc)

/-- The statement. -/
theorem proved : Rows.CodecOneSaid :=
  over
#print axioms proved
end Go.Proofs.Ytggpfggfiflnaaa.codecOne
