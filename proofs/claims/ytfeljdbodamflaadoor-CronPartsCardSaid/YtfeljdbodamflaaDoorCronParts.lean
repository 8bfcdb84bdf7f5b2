/-
  CronParts holds: a field of parts says what its parts say together. No condition but the tables'.
-/
import Derived.Test.YtfeljdbodamflaaDoorLift
set_option linter.unusedVariables false
namespace Go.Proofs.YtfeljdbodamflaaDoor.cronParts
open Go.ChangeShapes Go.WideShapes Go.ChangeAt Go.RowKit Crn
open Go.ChangeMaps (open_string shut_string)

theorem blank_iff (x : UInt8) : isBlank x = ((x.toNat : Int) == 32 || (x.toNat : Int) == 9) := by
  have h : ∀ n : Nat, n < 256 → isBlank (UInt8.ofNat n) = ((n : Int) == 32 || (n : Int) == 9) := by decide +kernel
  have := h x.toNat x.toNat_lt
  rwa [UInt8.ofNat_toNat] at this

set_option maxRecDepth 100000 in
set_option maxHeartbeats 2000000 in
theorem walk_core (A B : ByteArray) (w : World) (tb : Tab w) (ha : A.size ≤ 60) (hb : B.size ≤ 60)
    (hall : Hid ((∀ j (h : j < (A ++ B).size), isBlank (A ++ B)[j] = false) → ∃ (a0 a1 a2 a3 a4 b0 b1 b2 b3 b4 z0 z1 z2 z3 z4 : Nat) (ea eb ez : Int),
      (∀ W, Tab W → Calls Tryd.prog 11 #[.string (A ++ bs [32, 48, 32, 49, 32, 49, 32, 48])] W fun e w' => e = .returned (.tuple #[.agg #[.int .u64 a0, .int .u64 a1, .int .u64 a2, .int .u64 a3, .int .u64 a4, .bool false, .bool false, .int .i64 0], .int .i64 ea]) ∧ Below W.heap.size W w') ∧
      (∀ W, Tab W → Calls Tryd.prog 11 #[.string (B ++ bs [32, 48, 32, 49, 32, 49, 32, 48])] W fun e w' => e = .returned (.tuple #[.agg #[.int .u64 b0, .int .u64 b1, .int .u64 b2, .int .u64 b3, .int .u64 b4, .bool false, .bool false, .int .i64 0], .int .i64 eb]) ∧ Below W.heap.size W w') ∧
      (∀ W, Tab W → Calls Tryd.prog 11 #[.string (A ++ bs [44] ++ B ++ bs [32, 48, 32, 49, 32, 49, 32, 48])] W fun e w' => e = .returned (.tuple #[.agg #[.int .u64 z0, .int .u64 z1, .int .u64 z2, .int .u64 z3, .int .u64 z4, .bool false, .bool false, .int .i64 0], .int .i64 ez]) ∧ Below W.heap.size W w') ∧
      ((ea = 7 ∧ ez = 7) ∨ (ea = 0 ∧ eb = 7 ∧ ez = 7) ∨ (ea = 0 ∧ eb = 0 ∧ ez = 0 ∧ ((z0 : Int) == bits .or .u64 (a0 : Int) (b0 : Int)) = true)))) :
    Calls Tryd.prog 8 #[.string A, .string B] w fun e w' => e = .returned (.bool true) ∧ Below w.heap.size w w' := by
  have ca := Lib.hid (awake_any w tb)
  have el : decide (60 < (A.size : Int)) = false := by simp; omega
  have er : decide (60 < (B.size : Int)) = false := by simp; omega
  have hAB : (A ++ B).size = A.size + B.size := ByteArray.size_append
  have hzz : ¬ 9223372036854775807 < A.size + B.size := by omega
  go_enter Tryd.func8, Tryd.ntmps8
  go_wp2_with fail
  refine ca.out.mono ?_
  rintro e w1 ⟨rfl, k1⟩
  have tb1 := Lib.hid (tb.below k1)
  replace k1 := Lib.hid k1
  clear tb ca
  go_wp2_with fail
  clear el er
  go_loop [31] (fun i => ∃ k : Nat, k ≤ A.size + B.size ∧ i = .int .i64 k ∧ Hid (∀ j (h : j < (A ++ B).size), j < k → isBlank (A ++ B)[j] = false)) (fun i => A.size + B.size - (intOf i).toNat)
  case atStart => exact ⟨0, by omega, rfl, fun j _ h => absurd h (Nat.not_lt_zero _)⟩
  case round =>
    obtain ⟨k, hk, rfl, hno⟩ := hrel
    by_cases hlt : k < A.size + B.size
    · have hk' : k < (A ++ B).size := by omega
      have hi2 : (k : Int) < ((A ++ B).size : Int) := by omega
      have hbl := blank_iff ((A ++ B)[k]'hk')
      by_cases h32 : (((A ++ B)[k]'hk').toNat : Int) = 32
      · have e1 : ((((A ++ B)[k]'hk').toNat : Int) == 32) = true := by simp [h32]
        clear h32 hbl
        go_wp2_with fail
        go_ret
        exact ⟨rfl, k1.out⟩
      · have e1 : ((((A ++ B)[k]'hk').toNat : Int) == 32) = false := by simp [h32]
        by_cases h9 : (((A ++ B)[k]'hk').toNat : Int) = 9
        · have e2 : ((((A ++ B)[k]'hk').toNat : Int) == 9) = true := by simp [h9]
          clear h32 h9 hbl
          go_wp2_with fail
          go_ret
          exact ⟨rfl, k1.out⟩
        · have e2 : ((((A ++ B)[k]'hk').toNat : Int) == 9) = false := by simp [h9]
          have hn : Hid (∀ j (h : j < (A ++ B).size), j < k + 1 → isBlank (A ++ B)[j] = false) := fun j h hj => by
            by_cases e : j = k
            · subst e
              rw [hbl, e1, e2]
              rfl
            · exact hno.out j h (by omega)
          clear h32 h9 hbl
          go_wp2_with fail
          exact ⟨⟨k + 1, by omega, by go_num, hn⟩, by simp [intOf]; omega⟩
    · obtain ⟨a0, a1, a2, a3, a4, b0, b1, b2, b3, b4, z0, z1, z2, z3, z4, ea, eb, ez, C1, C2, C3, hend⟩ := hall.out (fun j h => hno.out j h (by omega))
      have hT : (bs [32, 48, 32, 49, 32, 49, 32, 48]).size = 8 := by rw [bs_size]; rfl
      have h44 : (bs [44]).size = 1 := by rw [bs_size]; rfl
      have c1 := Lib.hid (C1 _ tb1.out)
      replace C2 := Lib.hid C2
      replace C3 := Lib.hid C3
      replace hend := Lib.hid hend
      clear C1 hall hno
      have s1 : ¬ 9223372036854775807 < A.size + (bs [32, 48, 32, 49, 32, 49, 32, 48]).size := by omega
      have s2 : ¬ 9223372036854775807 < B.size + (bs [32, 48, 32, 49, 32, 49, 32, 48]).size := by omega
      have s3 : ¬ 9223372036854775807 < A.size + (bs [44]).size := by omega
      have s4 : ¬ 9223372036854775807 < (A ++ bs [44]).size + B.size := by rw [ByteArray.size_append]; omega
      have s5 : ¬ 9223372036854775807 < (A ++ bs [44] ++ B).size + (bs [32, 48, 32, 49, 32, 49, 32, 48]).size := by rw [ByteArray.size_append, ByteArray.size_append]; omega
      go_wp2_with fail
      refine c1.out.mono ?_
      rintro e w2 ⟨rfl, k2⟩
      have kk := (Below.refl w2.heap.size w2).alloc (Nat.le_refl _) (.cells #[.int .u64 a0, .int .u64 a1, .int .u64 a2, .int .u64 a3, .int .u64 a4, .bool false, .bool false, .int .i64 0] 25)
      have bb2 := Lib.hid (k1.out.trans ((k2.trans (kk.mono k2.size)).mono k1.out.size))
      have La := Lib.hid (Lies.start w2 [.int .u64 a0, .int .u64 a1, .int .u64 a2, .int .u64 a3, .int .u64 a4, .bool false, .bool false, .int .i64 0] 25 #[.int .u64 a0, .int .u64 a1, .int .u64 a2, .int .u64 a3, .int .u64 a4, .bool false, .bool false, .int .i64 0] rfl)
      have tb2 := Lib.hid ((tb1.out.below k2).below kk)
      have c2 := Lib.hid (C2.out _ tb2.out)
      clear k2 kk c1 k1 tb1 C2
      go_wp2_with fail
      refine c2.out.mono ?_
      generalize w2.alloc (.cells #[.int .u64 a0, .int .u64 a1, .int .u64 a2, .int .u64 a3, .int .u64 a4, .bool false, .bool false, .int .i64 0] 25) = v2 at *
      generalize w2.heap.size = ga at *
      rintro e w3 ⟨rfl, k3⟩
      have kk := (Below.refl w3.heap.size w3).alloc (Nat.le_refl _) (.cells #[.int .u64 b0, .int .u64 b1, .int .u64 b2, .int .u64 b3, .int .u64 b4, .bool false, .bool false, .int .i64 0] 25)
      have bb3 := Lib.hid (bb2.out.trans ((k3.trans (kk.mono k3.size)).mono bb2.out.size))
      have La2 := Lib.hid ((La.out.step (Nat.zero_lt_succ _) k3).step (Nat.zero_lt_succ _) kk)
      have Lb := Lib.hid (Lies.start w3 [.int .u64 b0, .int .u64 b1, .int .u64 b2, .int .u64 b3, .int .u64 b4, .bool false, .bool false, .int .i64 0] 25 #[.int .u64 b0, .int .u64 b1, .int .u64 b2, .int .u64 b3, .int .u64 b4, .bool false, .bool false, .int .i64 0] rfl)
      have tb3 := Lib.hid ((tb2.out.below k3).below kk)
      have c3 := Lib.hid (C3.out _ tb3.out)
      clear k3 kk c2 bb2 tb2 C3 La
      go_wp2_with fail
      refine c3.out.mono ?_
      generalize w3.alloc (.cells #[.int .u64 b0, .int .u64 b1, .int .u64 b2, .int .u64 b3, .int .u64 b4, .bool false, .bool false, .int .i64 0] 25) = v3 at *
      generalize w3.heap.size = gb at *
      rintro e w4 ⟨rfl, k4⟩
      have kk := (Below.refl w4.heap.size w4).alloc (Nat.le_refl _) (.cells #[.int .u64 z0, .int .u64 z1, .int .u64 z2, .int .u64 z3, .int .u64 z4, .bool false, .bool false, .int .i64 0] 25)
      have bb4 := Lib.hid (bb3.out.trans ((k4.trans (kk.mono k4.size)).mono bb3.out.size))
      have p0 := ((La2.out.step (Nat.zero_lt_succ _) k4).step (Nat.zero_lt_succ _) kk).eight.1
      have q0 := ((Lb.out.step (Nat.zero_lt_succ _) k4).step (Nat.zero_lt_succ _) kk).eight.1
      clear k4 kk c3 bb3 tb3 La2 Lb
      rcases hend.out with ⟨rfl, rfl⟩ | ⟨rfl, rfl, rfl⟩ | ⟨rfl, rfl, rfl, hz⟩
      · clear hend
        go_wp2_with fail
        go_ret
        exact ⟨rfl, bb4.out⟩
      · clear hend
        go_wp2_with fail
        go_ret
        exact ⟨rfl, bb4.out⟩
      · clear hend
        go_wp2_with fail
        go_ret
        exact ⟨by rfl, bb4.out⟩

def part1 (x : Nat) : SpecN := ⟨x, 1, 2, 2, 1, false, false, 0⟩
theorem tail_says (A : ByteArray) (h : ∀ b ∈ A.data.toList, isBlank b = false) (hl : A.size ≤ 150) : parse (A ++ bs [32, 48, 32, 49, 32, 49, 32, 48]).data.toList = (field 0 A.data.toList).map part1 := by
  have e : (A ++ bs [32, 48, 32, 49, 32, 49, 32, 48]).data.toList = A.data.toList ++ tail := by simp [bs, tail]
  rw [e]
  exact parse_tail A.data.toList h (by simpa using Nat.le_trans hl (by omega))

set_option maxRecDepth 100000 in
theorem walk (A : ByteArray) (_ : A.size ≤ maxLen) (B : ByteArray) (_ : B.size ≤ maxLen) (w : World) (tb : Tab w) :
    Calls Tryd.prog 8 #[.string A, .string B] w fun e w' => e = .returned (.bool true) ∧ Below w.heap.size w w' := by
  by_cases hs : A.size ≤ 60 ∧ B.size ≤ 60
  · obtain ⟨ha, hb⟩ := hs
    refine walk_core A B w tb ha hb (fun hno => ?_)
    have hall : ∀ b ∈ A.data.toList ++ B.data.toList, isBlank b = false := fun b hb => by
      obtain ⟨j, hj, rfl⟩ := List.mem_iff_getElem.1 hb
      have e : (A ++ B).data.toList = A.data.toList ++ B.data.toList := by simp
      have hj' : j < (A ++ B).size := by
        have := congrArg List.length e
        simp at this hj
        simp
        omega
      have h1 := hno j hj'
      have h2 : (A ++ B)[j] = (A ++ B).data.toList[j]'(by simpa using hj') := rfl
      rw [h2] at h1
      simp only [e] at h1
      exact h1
    have hA := fun b (h : b ∈ A.data.toList) => hall b (List.mem_append_left _ h)
    have hB := fun b (h : b ∈ B.data.toList) => hall b (List.mem_append_right _ h)
    have hT : (bs [32, 48, 32, 49, 32, 49, 32, 48]).size = 8 := by rw [bs_size]; rfl
    have h44 : (bs [44]).size = 1 := by rw [bs_size]; rfl
    have c1 := fun W t => cParse_any (A ++ bs [32, 48, 32, 49, 32, 49, 32, 48]) W t (by rw [ByteArray.size_append]; omega)
    have c2 := fun W t => cParse_any (B ++ bs [32, 48, 32, 49, 32, 49, 32, 48]) W t (by rw [ByteArray.size_append]; omega)
    have c3 := fun W t => cParse_any (A ++ bs [44] ++ B ++ bs [32, 48, 32, 49, 32, 49, 32, 48]) W t (by rw [ByteArray.size_append, ByteArray.size_append, ByteArray.size_append]; omega)
    have eABl : (A ++ bs [44] ++ B).data.toList = A.data.toList ++ 44 :: B.data.toList := by simp [bs]
    rw [tail_says A hA (by omega)] at c1
    rw [tail_says B hB (by omega)] at c2
    rw [tail_says (A ++ bs [44] ++ B) (by
      rw [eABl]
      intro b hb
      rcases List.mem_append.1 hb with h | h
      · exact hA b h
      · rcases List.mem_cons.1 h with rfl | h
        · decide
        · exact hB b h) (by rw [ByteArray.size_append, ByteArray.size_append]; omega), eABl, field_comma] at c3
    cases fa : field 0 A.data.toList with
    | none =>
      rw [fa] at c1 c3
      cases fb : field 0 B.data.toList with
      | none =>
        rw [fb] at c2
        exact ⟨0, 0, 0, 0, 0, 0, 0, 0, 0, 0, 0, 0, 0, 0, 0, 7, 7, 7, c1, c2, c3, Or.inl ⟨rfl, rfl⟩⟩
      | some y =>
        rw [fb] at c2
        exact ⟨0, 0, 0, 0, 0, y, 1, 2, 2, 1, 0, 0, 0, 0, 0, 7, 0, 7, c1, c2, c3, Or.inl ⟨rfl, rfl⟩⟩
    | some x =>
      rw [fa] at c1 c3
      cases fb : field 0 B.data.toList with
      | none =>
        rw [fb] at c2 c3
        exact ⟨x, 1, 2, 2, 1, 0, 0, 0, 0, 0, 0, 0, 0, 0, 0, 0, 7, 7, c1, c2, c3, Or.inr (Or.inl ⟨rfl, rfl, rfl⟩)⟩
      | some y =>
        rw [fb] at c2 c3
        refine ⟨x, 1, 2, 2, 1, y, 1, 2, 2, 1, x ||| y, 1, 2, 2, 1, 0, 0, 0, c1, c2, c3, Or.inr (Or.inr ⟨rfl, rfl, rfl, ?_⟩)⟩
        rw [u64_or_nat x y (field_lt (by omega) fa) (field_lt (by omega) fb)]
        simp
  · have ca := Lib.hid (fun W t => awake_any W t)
    have c0 := Lib.hid (ca.out w tb)
    by_cases h1 : A.size ≤ 60
    · have el : decide (60 < (A.size : Int)) = false := by simp; omega
      have er : decide (60 < (B.size : Int)) = true := by simp; omega
      clear hs h1
      go_enter Tryd.func8, Tryd.ntmps8
      go_wp2_with fail
      refine c0.out.mono ?_
      rintro e w1 ⟨rfl, k1⟩
      have c1 := Lib.hid (ca.out w1 (tb.below k1))
      replace k1 := Lib.hid k1
      clear tb
      go_wp2_with fail
      refine c1.out.mono ?_
      rintro e w2 ⟨rfl, k2⟩
      replace k2 := Lib.hid k2
      go_wp2_with fail
      go_ret
      exact ⟨rfl, k1.out.trans (k2.out.mono k1.out.size)⟩
    · have el : decide (60 < (A.size : Int)) = true := by simp; omega
      clear hs h1
      go_enter Tryd.func8, Tryd.ntmps8
      go_wp2_with fail
      refine c0.out.mono ?_
      rintro e w1 ⟨rfl, k1⟩
      have c1 := Lib.hid (ca.out w1 (tb.below k1))
      replace k1 := Lib.hid k1
      clear tb
      go_wp2_with fail
      refine c1.out.mono ?_
      rintro e w2 ⟨rfl, k2⟩
      replace k2 := Lib.hid k2
      go_wp2_with fail
      go_ret
      exact ⟨rfl, k1.out.trans (k2.out.mono k1.out.size)⟩

set_option maxRecDepth 100000 in
theorem contract (H : Type) (enc : TypeId × Value → H) (W : World) (base : Nat) (args : Array Value) (ds gs : List (DataW H)) (before : List MemPlace)
    (hval : ∀ (j : Nat) t v, Tryd.f8.params[j]? = some t → args[j]? = some v → Value.okWide Tryd.prog W .any base t v)
    (hW : DataW.Whole enc Tryd.prog Tryd.f8.params.toList Rows.cronPartsSpec.vars false W args.toList ds gs before) (hL : laidMetH Tryd.prog Rows.cronPartsRow.laid W) (hS : W.ShapedOpen Tryd.prog) :
    Calls Tryd.prog 8 args W fun e W' => ∃ v, e = .returned v ∧ Rows.cronPartsSpec.post enc Tryd.prog Tryd.f8 false true false false W args v W' := by
  have hW' := hW
  obtain ⟨p, q, hA0, hV, rfl, hfz, hnd⟩ := hW
  have hA : DataW.TrodAll enc Tryd.prog W 0 (fun _ => true) true Tryd.f8.params.toList args.toList ds p := hA0
  rw [Tryd.params8] at hA hval
  obtain ⟨v0, vs0, d0, ds0, p0, q0, hargs, rfl, rfl, h0, r0⟩ := trodAll_cons hA
  obtain ⟨v1, vs1, d1, ds1, p1, q1, rfl, rfl, rfl, h1, r1⟩ := trodAll_cons r0
  obtain ⟨rfl, rfl, rfl⟩ := trodAll_nil r1
  obtain rfl : args = #[v0, v1] := by clear hL hS hW' hval; cases args; simp_all
  obtain ⟨rfl, rfl⟩ := trodVars_none hV
  obtain ⟨a0, rfl, rfl, rfl, w0⟩ := open_string Tryd.underlying9 (hval 0 9 v0 rfl rfl) h0
  obtain ⟨a1, rfl, rfl, rfl, w1⟩ := open_string Tryd.underlying9 (hval 1 9 v1 rfl rfl) h1
  clear hA0
  simp only [List.append_nil] at hW'
  refine (walk a0 w0 a1 w1 W (table hL hS)).mono fun e W' ⟨he, hg⟩ => ?_
  subst he
  exact ⟨_, rfl, _, _, _, [], [], [], hW', trodAll_cons_mk (shut_bool Tryd.underlying4 _) trodAll_mk0, trodAll_cons_mk (shut_string Tryd.underlying9 w0) (trodAll_cons_mk (shut_string Tryd.underlying9 w1) trodAll_mk0), rfl, hg.frame _, fun h => by cases h⟩

theorem reads (os : Os) {H : Type} (enc : TypeId × Value → H) : ∃ places, DataW.whole enc Tryd.prog ((laidWorld os).forCall (fun _ _ => 0) ⟨#[], #[.string ByteArray.empty, .string ByteArray.empty], []⟩).memory Tryd.f8.params.toList Rows.cronPartsSpec.vars false (#[.string ByteArray.empty, .string ByteArray.empty] : Array Value).toList 8 = some ([.lit (.string []), .lit (.string [])], [], places) :=
  ⟨[], by kernel_rfl⟩

set_option maxRecDepth 100000 in
theorem lifted (os : Os) (started : os.Started) (H : Type) (enc : TypeId × Value → H) (F : Stop.Interp) :
    ReturnsInHanded {} Tryd.checked os 8 .any ((OpenSpec.ofChange Rows.cronPartsSpec).preRow enc Tryd.prog Tryd.f8 Rows.cronPartsRow.domain false Rows.cronPartsRow.laid) (((OpenSpec.ofChange Rows.cronPartsSpec).at F).post enc Tryd.prog Tryd.f8 false true false false) := by
  obtain ⟨places, hx⟩ := reads os enc
  refine returnsInHanded_of_row (C := Tryd.checked) (s := OpenSpec.ofChange Rows.cronPartsSpec) own started (by kernel_rfl) Tryd.func8
    (witness_row_at (enc := enc) (C := Tryd.checked) false (laidWorld os) #[.string ByteArray.empty, .string ByteArray.empty] (World.laidAll_os _ _ _) (by kernel_rfl) (by kernel_rfl) (by kernel_rfl)
      (OpenSpec.preRow_of_cond 8 hx (by kernel_rfl) (fun k hk => by cases hk) (by kernel_rfl) (laid_met os _))) ?_
  intro W base args ds gs before hval hW _ _ _ hL hS _
  exact contract H enc W base args ds gs before hval hW hL hS

theorem said : Rows.CronPartsSaid :=
  OpenClaim.holds_of_cond 8 Tryd.f8 rfl rfl rfl rfl rfl rfl rfl ⟨rfl, rfl, rfl, rfl, rfl⟩ rfl rfl rfl rfl rfl (by kernel_rfl) Tryd.func8 (by kernel_rfl)
    (of_decide_eq_true (by kernel_rfl)) (by unfold Func.isWrapper; first | (rw [if_pos (by decide +kernel)]; kernel_rfl) | (rw [if_neg (by decide +kernel)]; exact ⟨rfl, rfl⟩))
    (fun os started H enc _ F => by rw [OpenClaim.pre_eq_preRow]; exact lifted os started H enc F)

theorem plain (f : FuncId) (fn : Func) (hf : Tryd.pinned.checked.prog.funcNamed "tompion/tompionlaw04.CronParts" = some f) (hfn : Tryd.pinned.checked.prog.funcs[f]? = some fn) :
    false = Tryd.pinned.checked.prog.looks [] ∧ ∀ (j : Nat) t, fn.params[j]? = some t → Tryd.pinned.checked.prog.wantsStandIn t = false := by
  obtain rfl : f = 8 := Option.some.inj ((show Tryd.prog.funcNamed "tompion/tompionlaw04.CronParts" = some 8 by kernel_rfl).symm.trans hf) |>.symm
  obtain rfl : fn = Tryd.f8 := (Option.some.inj (Tryd.func8.symm.trans hfn)).symm
  refine ⟨by kernel_rfl, fun j t ht => ?_⟩
  rw [Tryd.params8] at ht
  obtain rfl : t = 9 := by simpa using Array.mem_of_getElem? ht
  exact (show Tryd.prog.wantsStandIn 9 = false by kernel_rfl)

/-- The statement: the card, its tables tied to the program's text. -/
theorem proved : Rows.CronPartsCardSaid :=
  Claim7.holds_tied_plain_at .later [] _ _ _ _ said (fun _ h => by cases h) (by kernel_rfl) (fun _ h => by cases h) cronParts_row_tie rfl ⟨rfl, rfl⟩ (by kernel_rfl) rfl plain (by kernel_rfl)
#print axioms proved
end Go.Proofs.YtfeljdbodamflaaDoor.cronParts
