/-
  CodecReads holds: whatever is read of any bytes, in any order, is what the document says, with what went wrong first, and how much is left. No condition.
-/
import Derived.Test.YtggpfggfiflnaaaPair
import Derived.Deep.RegionHeld3
import Derived.OpenShut
import Derived.ShutString
namespace Go.Proofs.Ytggpfggfiflnaaa.codecReads
open Go.ChangeShapes Go.WideShapes Go.ChangeAt Go.RowKit Cod
open Go.ChangeMaps (open_string shut_string)

theorem own : ownKnob Try.prog.godebug = none := by kernel_rfl
theorem laidOut : laidOutB Try.prog = true := by kernel_rfl

theorem rf_new (w : World) (s : ByteArray) (hs : s.size ≤ 100000) : RfS (w.alloc (.cells #[.string s, .int .i64 0, .int .i64 0] 33)) w.heap.size s ⟨s, 0⟩ :=
  ⟨⟨0, ⟨by simp, by simp, by simp, by simp, fun o => by simp⟩, by omega, fun _ => text_inj (by rw [bytes_cut, List.drop_zero])⟩, hs⟩

theorem two_start {w W : World} {p : Nat} {s : ByteArray} (hs : s.size ≤ 100000) (t : Rd W p ⟨s, 0⟩) (b : Below w.heap.size w W) (hp : w.heap.size ≤ p) : Two w p W.heap.size s ⟨s, 0⟩ (W.alloc (.cells #[.string s, .int .i64 0, .int .i64 0] 33)) :=
  ⟨t.below ((Below.refl _ _).alloc (Nat.le_refl _) _), rf_new W s hs, b.alloc b.size _, by have := t.lt; omega, hp, b.size⟩

theorem str_to {st st1 : St} {mm : Int} {R : ByteArray} {p : Nat} (h : strS st mm = (R, st1)) (W : World) (hm1 : -9223372036854775808 ≤ mm) (hm2 : mm ≤ 9223372036854775807) (t : Rd W p st) :
    Calls Try.prog 23 #[.pointer (some ⟨p, 0, none⟩), .int .i64 mm] W fun e w' => e = .returned (.string R) ∧ Rd w' p st1 ∧ Kept p W w' := by
  have := str_all p st mm W hm1 hm2 t
  rw [h] at this
  exact this
theorem refStr_to {st st1 : St} {mm : Int} {R S : ByteArray} {f : Nat} (h : strS st mm = (R, st1)) (W : World) (hm1 : -9223372036854775808 ≤ mm) (hm2 : mm ≤ 9223372036854775807) (t : RfS W f S st) :
    Calls Try.prog 24 #[.pointer (some ⟨f, 0, none⟩), .int .i64 mm] W fun e w' => e = .returned (.string R) ∧ RfS w' f S st1 ∧ Kept f W w' := by
  have := refStr_all f S st mm W hm1 hm2 t
  rw [h] at this
  exact this

set_option maxRecDepth 100000 in
set_option maxHeartbeats 1600000 in
theorem walk_short (s : ByteArray) (a : Option Addr) (len cap : Nat) (K M : Nat → Int) (w : World) (hs : s.size ≤ 1000) (hl : len ≤ 100) (hops : Hid (IsOps w a len K M)) :
    Calls Try.prog 4 #[.string s, .slice a len cap] w fun e w' => e = .returned (.bool true) ∧ Below w.heap.size w w' := by
  go_enter Try.func4, Try.ntmps4
  go_wp2_with fail
  refine (awake_any _).mono ?_
  rintro e w1 ⟨rfl, b1⟩
  replace b1 := Lib.hid b1
  go_wp2_with fail
  refine (read_any s _ (by omega)).mono ?_
  rintro e w2 ⟨p, rfl, hp, t2, k2⟩
  have b2 := Lib.hid (b1.out.trans (k2.mono b1.out.size))
  replace hp := Lib.hid (Nat.le_trans b1.out.size hp)
  replace t2 := Lib.hid t2
  clear k2 b1
  go_wp2_with fail
  have o3 := Lib.hid (two_start (by omega) t2.out b2.out hp.out)
  clear t2 b2 hp
  generalize w2.alloc (.cells #[.string s, .int .i64 0, .int .i64 0] 33) = w3 at *
  generalize w2.heap.size = f at *
  go_loopw [30] (fun i wr => ∃ (k : Nat) (st : St), k ≤ len ∧ i = .int .i64 k ∧ Hid (Two w p f s st wr)) (fun i _ => len - (intOf i).toNat)
  case atStart => exact ⟨0, ⟨s, 0⟩, by omega, rfl, o3⟩
  case round =>
    obtain ⟨k, st, hk, rfl, o⟩ := hrel
    clear o3
    by_cases hlt : k < len
    · obtain ⟨y, off, rfl, hy, hc0, hc1, hM⟩ : ∃ y off, a = some ⟨y, off, none⟩ ∧ y < w.heap.size ∧ w.cell? ⟨y, off + k * 2, none⟩ = some (.int .i64 (K k)) ∧ w.cell? ⟨y, off + k * 2 + 1, none⟩ = some (.int .i64 (M k)) ∧ (-9223372036854775808 ≤ M k ∧ M k ≤ 9223372036854775807) := by
        rcases hops.out with h0 | ⟨y, off, rfl, hy, _, hc⟩
        · omega
        · exact ⟨y, off, rfl, hy, (hc k hlt).1, (hc k hlt).2.1, (hc k hlt).2.2.2⟩
      have c0 : wr.cell? ⟨y, off + k * 2, none⟩ = some (.int .i64 (K k)) := (o.out.bel.cell (p := ⟨y, off + k * 2, none⟩) hy).trans hc0
      have c1 : wr.cell? ⟨y, off + k * 2 + 1, none⟩ = some (.int .i64 (M k)) := (o.out.bel.cell (p := ⟨y, off + k * 2 + 1, none⟩) hy).trans hc1
      clear hc0 hc1 hops
      replace hM := Lib.hid hM
      generalize K k = kk at *
      generalize M k = mm at *
      have hlt2 : (k : Int) < len := by omega
      by_cases h1 : kk = 1
      · subst h1
        obtain ⟨R, st1, hR⟩ : ∃ R st1, uintS st = (R, st1) := ⟨_, _, rfl⟩
        replace hR := Lib.hid hR
        go_wp2_with fail
        have o5 := Lib.hid (Tri.start o.out 1 mm)
        clear o c0 c1
        generalize wr.alloc (.cells #[.int .i64 1, .int .i64 mm] 35) = w5 at *
        generalize wr.heap.size = q at *
        refine (uint_all _ _ _ o5.out.rd).mono ?_
        rw [hR.out]
        rintro e w6 ⟨rfl, t6, k6⟩
        have o6 := Lib.hid (o5.out.stepR t6 k6)
        clear o5 t6 k6
        go_wp2_with fail
        refine (refUint_all _ _ _ _ o6.out.rf).mono ?_
        rw [hR.out]
        rintro e w7 ⟨rfl, t7, k7⟩
        have o7 := Lib.hid (o6.out.stepF t7 k7)
        clear o6 t7 k7
        have c2 := o7.out.rf.cell
        go_wp2_with fail
        go_quiet (first | (go_at_call 26; exact err_q o7.out.rd _) | (go_at_call 27; exact left_q o7.out.rd _) | (go_at_call 28; exact refLeft_q' o7.out.rf _))
        have o8 := Lib.hid (o7.out.drewN nq)
        clear o7 c2
        generalize w7.drewN nq = w8 at *
        go_wp2_with fail
        refine ⟨⟨k + 1, st1, by omega, by go_num, o8.out.two⟩, ?_⟩
        simp [intOf]; omega
      · by_cases h2 : kk = 2
        · subst h2
          clear h1
          obtain ⟨R, st1, hR⟩ : ∃ R st1, intS st = (R, st1) := ⟨_, _, rfl⟩
          replace hR := Lib.hid hR
          go_wp2_with fail
          have o5 := Lib.hid (Tri.start o.out 2 mm)
          clear o c0 c1
          generalize wr.alloc (.cells #[.int .i64 2, .int .i64 mm] 35) = w5 at *
          generalize wr.heap.size = q at *
          refine (int_all _ _ _ o5.out.rd).mono ?_
          rw [hR.out]
          rintro e w6 ⟨rfl, t6, k6⟩
          have o6 := Lib.hid (o5.out.stepR t6 k6)
          clear o5 t6 k6
          go_wp2_with fail
          refine (refInt_all _ _ _ _ o6.out.rf).mono ?_
          rw [hR.out]
          rintro e w7 ⟨rfl, t7, k7⟩
          have o7 := Lib.hid (o6.out.stepF t7 k7)
          clear o6 t7 k7
          have c2 := o7.out.rf.cell
          go_wp2_with fail
          go_quiet (first | (go_at_call 26; exact err_q o7.out.rd _) | (go_at_call 27; exact left_q o7.out.rd _) | (go_at_call 28; exact refLeft_q' o7.out.rf _))
          have o8 := Lib.hid (o7.out.drewN nq)
          clear o7 c2
          generalize w7.drewN nq = w8 at *
          go_wp2_with fail
          refine ⟨⟨k + 1, st1, by omega, by go_num, o8.out.two⟩, ?_⟩
          simp [intOf]; omega
        · by_cases h3 : kk = 3
          · subst h3
            clear h1 h2
            obtain ⟨R, st1, hR⟩ : ∃ R st1, byteS st = (R, st1) := ⟨_, _, rfl⟩
            replace hR := Lib.hid hR
            go_wp2_with fail
            have o5 := Lib.hid (Tri.start o.out 3 mm)
            clear o c0 c1
            generalize wr.alloc (.cells #[.int .i64 3, .int .i64 mm] 35) = w5 at *
            generalize wr.heap.size = q at *
            refine (byte_all _ _ _ o5.out.rd).mono ?_
            rw [hR.out]
            rintro e w6 ⟨rfl, t6, k6⟩
            have o6 := Lib.hid (o5.out.stepR t6 k6)
            clear o5 t6 k6
            go_wp2_with fail
            refine (refByte_all _ _ _ _ o6.out.rf).mono ?_
            rw [hR.out]
            rintro e w7 ⟨rfl, t7, k7⟩
            have o7 := Lib.hid (o6.out.stepF t7 k7)
            clear o6 t7 k7
            have c2 := o7.out.rf.cell
            go_wp2_with fail
            go_quiet (first | (go_at_call 26; exact err_q o7.out.rd _) | (go_at_call 27; exact left_q o7.out.rd _) | (go_at_call 28; exact refLeft_q' o7.out.rf _))
            have o8 := Lib.hid (o7.out.drewN nq)
            clear o7 c2
            generalize w7.drewN nq = w8 at *
            go_wp2_with fail
            refine ⟨⟨k + 1, st1, by omega, by go_num, o8.out.two⟩, ?_⟩
            simp [intOf]; omega
          · by_cases h4 : kk = 4
            · subst h4
              clear h1 h2 h3
              obtain ⟨R, st1, hR⟩ : ∃ R st1, strS st mm = (R, st1) := ⟨_, _, rfl⟩
              replace hR := Lib.hid hR
              go_wp2_with fail
              have o5 := Lib.hid (Tri.start o.out 4 mm)
              clear o c0 c1
              generalize wr.alloc (.cells #[.int .i64 4, .int .i64 mm] 35) = w5 at *
              generalize wr.heap.size = q at *
              have hc5 := o5.out.c1
              go_region_held3 (fun w' => w'.cell? ⟨q, 1, none⟩ = some (.int .i64 mm)) (first | exact hc6 | exact hc7 | go_keep)
                (first
                  | (go_at_call 23; refine (str_to hR.out _ hM.out.1 hM.out.2 o5.out.drew.rd).mono ?_; rintro e w6 ⟨rfl, t6, k6⟩; have o6 := Lib.hid (o5.out.drew.stepR t6 k6); have hc6 := o6.out.c1; clear t6 k6)
                  | (go_at_call 24; refine (refStr_to hR.out _ hM.out.1 hM.out.2 o6.out.rf).mono ?_; rintro e w7 ⟨rfl, t7, k7⟩; have o7 := Lib.hid (o6.out.stepF t7 k7); have hc7 := o7.out.c1; clear t7 k7))
              clear o5 o6 hc5 hc6 hc7
              have c2 := o7.out.rf.cell
              go_wp2_with fail
              go_quiet (first | (go_at_call 26; exact err_q o7.out.rd _) | (go_at_call 27; exact left_q o7.out.rd _) | (go_at_call 28; exact refLeft_q' o7.out.rf _))
              have o8 := Lib.hid (o7.out.drewN nq)
              clear o7 c2
              generalize w7.drewN nq = w8 at *
              go_wp2_with fail
              refine ⟨⟨k + 1, st1, by omega, by go_num, o8.out.two⟩, ?_⟩
              simp [intOf]; omega
            · by_cases h5 : kk = 5
              · subst h5
                clear h1 h2 h3 h4
                go_wp2_with fail
                have o5 := Lib.hid (Tri.start o.out 5 mm)
                clear o c0 c1
                generalize wr.alloc (.cells #[.int .i64 5, .int .i64 mm] 35) = w5 at *
                generalize wr.heap.size = q at *
                have hc5 := o5.out.c1
                go_wp2_with fail
                refine (fail_any _ _ mm _ o5.out.rd).mono ?_
                rintro e w6 ⟨rfl, t6, k6⟩
                have o6 := Lib.hid (o5.out.stepR t6 k6)
                clear o5 t6 k6 hc5
                have c2 := o6.out.rf.cell
                have z2 := o6.out.rf.fz
                have hc6 := o6.out.c1
                by_cases h0 : st.e = 0
                · have e0 : (st.e == 0) = true := by simpa using h0
                  have hf : Hid (failS st mm = ⟨st.rest, mm⟩) := by show failS st mm = _; rw [failS, if_pos h0]
                  replace h0 := Lib.hid h0
                  go_wp2_with fail
                  have o7 : Hid (Tri w p f s ⟨st.rest, mm⟩ ⟨st.rest, mm⟩ q 5 mm (w6.setCell ⟨f, 2, none⟩ (.int .i64 mm))) := by
                    have h := o6.out.stepF (o6.out.rf.fail mm h0.out) ((Kept.refl f w6).setCell 2 (.int .i64 mm))
                    rw [hf.out] at h
                    exact h
                  clear o6 c2 z2 hc6
                  generalize w6.setCell ⟨f, 2, none⟩ (.int .i64 mm) = w7 at *
                  have c2 := o7.out.rf.cell
                  go_wp2_with fail
                  go_quiet (first | (go_at_call 26; exact err_q o7.out.rd _) | (go_at_call 27; exact left_q o7.out.rd _) | (go_at_call 28; exact refLeft_q' o7.out.rf _))
                  have o8 := Lib.hid (o7.out.drewN nq)
                  clear o7 c2
                  generalize w7.drewN nq = w8 at *
                  go_wp2_with fail
                  refine ⟨⟨k + 1, ⟨st.rest, mm⟩, by omega, by go_num, o8.out.two⟩, ?_⟩
                  simp [intOf]; omega
                · have e0 : (st.e == 0) = false := by simpa using h0
                  have hf : Hid (failS st mm = st) := by show failS st mm = _; rw [failS, if_neg h0]
                  replace h0 := Lib.hid h0
                  have o7 : Hid (Tri w p f s st st q 5 mm w6) := by have h := o6.out; rw [hf.out] at h; exact h
                  clear o6
                  go_wp2_with fail
                  go_quiet (first | (go_at_call 26; exact err_q o7.out.rd _) | (go_at_call 27; exact left_q o7.out.rd _) | (go_at_call 28; exact refLeft_q' o7.out.rf _))
                  have o8 := Lib.hid (o7.out.drewN nq)
                  clear o7 c2
                  generalize w6.drewN nq = w8 at *
                  go_wp2_with fail
                  refine ⟨⟨k + 1, st, by omega, by go_num, o8.out.two⟩, ?_⟩
                  simp [intOf]; omega
              · have e1 : (kk == 1) = false := by simpa using h1
                have e2 : (kk == 2) = false := by simpa using h2
                have e3 : (kk == 3) = false := by simpa using h3
                have e4 : (kk == 4) = false := by simpa using h4
                have e5 : (kk == 5) = false := by simpa using h5
                replace h1 := Lib.hid h1
                replace h2 := Lib.hid h2
                replace h3 := Lib.hid h3
                replace h4 := Lib.hid h4
                replace h5 := Lib.hid h5
                go_wp2_with fail
                have o7 := Lib.hid (Tri.start o.out kk mm)
                clear o c0 c1
                generalize wr.alloc (.cells #[.int .i64 kk, .int .i64 mm] 35) = w7 at *
                generalize wr.heap.size = q at *
                have c2 := o7.out.rf.cell
                go_quiet (first | (go_at_call 26; exact err_q o7.out.rd _) | (go_at_call 27; exact left_q o7.out.rd _) | (go_at_call 28; exact refLeft_q' o7.out.rf _))
                have o8 := Lib.hid (o7.out.drewN nq)
                clear o7 c2
                generalize w7.drewN nq = w8 at *
                go_wp2_with fail
                refine ⟨⟨k + 1, st, by omega, by go_num, o8.out.two⟩, ?_⟩
                simp [intOf]; omega
    · obtain rfl : k = len := by omega
      go_wp2_with fail
      go_ret
      exact ⟨rfl, o.out.bel⟩

set_option maxHeartbeats 800000 in
theorem walk_long (s : ByteArray) (a : Option Addr) (len cap : Nat) (w : World) (h : 1000 < s.size ∨ 100 < len) :
    Calls Try.prog 4 #[.string s, .slice a len cap] w fun e w' => e = .returned (.bool true) ∧ Below w.heap.size w w' := by
  by_cases h1 : 1000 < s.size
  · clear h
    go_enter Try.func4, Try.ntmps4
    go_wp2_with fail
    refine (awake_any _).mono ?_
    rintro e w1 ⟨rfl, b1⟩
    replace b1 := Lib.hid b1
    go_wp2_with fail
    refine (awake_any _).mono ?_
    rintro e w2 ⟨rfl, k2⟩
    have b2 := Lib.hid (b1.out.trans (k2.mono b1.out.size))
    clear k2 b1
    go_wp2_with fail
    go_ret
    exact ⟨rfl, b2.out⟩
  · have h2 : 100 < len := by omega
    clear h
    go_enter Try.func4, Try.ntmps4
    go_wp2_with fail
    refine (awake_any _).mono ?_
    rintro e w1 ⟨rfl, b1⟩
    replace b1 := Lib.hid b1
    go_wp2_with fail
    refine (awake_any _).mono ?_
    rintro e w2 ⟨rfl, k2⟩
    have b2 := Lib.hid (b1.out.trans (k2.mono b1.out.size))
    clear k2 b1
    go_wp2_with fail
    go_ret
    exact ⟨rfl, b2.out⟩

theorem walk (s : ByteArray) (a : Option Addr) (len cap : Nat) (K M : Nat → Int) (w : World) (hops : IsOps w a len K M) :
    Calls Try.prog 4 #[.string s, .slice a len cap] w fun e w' => e = .returned (.bool true) ∧ Below w.heap.size w w' := by
  by_cases h : 1000 < s.size ∨ 100 < len
  · exact walk_long s a len cap w h
  · exact walk_short s a len cap K M w (by omega) (by omega) hops

set_option maxRecDepth 100000 in
theorem lifted (os : Os) (started : os.Started) (H : Type) (enc : TypeId × Value → H) :
    ReturnsInHanded {} Try.checked os 4 .any (Rows.codecReadsSpec.pre6 enc Try.prog Try.f4 Rows.codecReadsRow.domain false) (Rows.codecReadsSpec.post enc Try.prog Try.f4 false true false false) := by
  refine returnsInHanded_of_change (C := Try.checked) own started (by kernel_rfl) Try.func4
    (ChangeSpec.witness6 (enc := enc) (C := Try.checked) false ⟨#[], #[.string ByteArray.empty, .slice none 0 0], []⟩ 8 (by kernel_rfl) (by kernel_rfl) (by kernel_rfl) (by kernel_rfl)) ?_
  intro W base args ds gs before hval0 hW _ _
  have hval : ∀ (j : Nat) t v, Try.f4.params[j]? = some t → args[j]? = some v → Value.okWide Try.prog W .any base t v := hval0
  have hW' := hW
  obtain ⟨p, q, hA0, hV, rfl, hfz, hnd⟩ := hW
  have hA : DataW.TrodAll enc Try.prog W 0 (fun _ => true) true Try.f4.params.toList args.toList ds p := hA0
  rw [Try.params4] at hA hval
  obtain ⟨v0, vs0, d0, ds0, p0, q0, hargs, rfl, rfl, h0, r0⟩ := trodAll_cons hA
  obtain ⟨v1, vs1, d1, ds1, p1, q1, rfl, rfl, rfl, h1, r1⟩ := trodAll_cons r0
  obtain ⟨rfl, rfl, rfl⟩ := trodAll_nil r1
  obtain rfl : args = #[v0, v1] := by cases args; simp_all
  obtain ⟨rfl, rfl⟩ := trodVars_none hV
  obtain ⟨a0, rfl, rfl, rfl, w0⟩ := open_string Try.underlying9 (hval 0 9 v0 rfl rfl) h0
  obtain ⟨a1, len1, cap1, rfl⟩ := okWide_slice Try.underlying28 (hval 1 28 v1 rfl rfl)
  have k1 := h1
  have lt1 : ∀ x ∈ p1, x.block < W.heap.size := by obtain ⟨m, hm⟩ := k1; exact DataW.trod_lt m _ _ _ hm
  obtain ⟨K, M, hops⟩ : ∃ K M, IsOps W a1 len1 K M := by
    obtain ⟨fuel, hf⟩ := h1
    exact isOps_of hf
  clear hA0 hval0
  refine (walk a0 a1 len1 cap1 K M W hops).mono fun e W' ⟨he, bel⟩ => ?_
  subst he
  exact ⟨_, rfl, _, _, _, [], _, [], hW', trodAll_mk1 (shut_bool Try.underlying4 _), (trodAll_cons_mk (shut_string Try.underlying9 w0) (trodAll_cons_mk (Below.trod laidOut (by kernel_rfl) (of_decide_eq_true (by kernel_rfl)) k1 bel lt1) trodAll_mk0)), rfl, bel.frame _, fun h => by cases h⟩

theorem over : Rows.codecReadsRow.holds Try.pinned (OpenSpec.ofChange Rows.codecReadsSpec) :=
  OpenClaim.holds_of_wide 4 Try.f4 rfl rfl rfl rfl rfl rfl rfl ⟨rfl, rfl, rfl, rfl, rfl⟩ rfl rfl rfl rfl rfl (by kernel_rfl) Try.func4 (by kernel_rfl)
    (of_decide_eq_true (by kernel_rfl)) (by unfold Func.isWrapper; first | (rw [if_pos (by decide +kernel)]; kernel_rfl) | (rw [if_neg (by decide +kernel)]; exact ⟨rfl, rfl⟩))
    (fun os started H enc _ => lifted os started H enc)

/-- The statement. -/
theorem proved : Rows.CodecReadsSaid := over
#print axioms proved
end Go.Proofs.Ytggpfggfiflnaaa.codecReads
