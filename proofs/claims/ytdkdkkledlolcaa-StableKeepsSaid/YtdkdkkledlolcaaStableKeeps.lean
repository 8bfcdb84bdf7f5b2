/-
  StableKeeps holds (the stage's theorem): what was appended is there behind any crashes, in order, and nothing else but, whole, the one that a crash kept. No condition.
-/
import Derived.Test.YtdkdkkledlolcaaSRow
namespace Go.Proofs.Ytdkdkkledlolcaa.stableKeeps
open Go.ChangeShapes Go.WideShapes Go.ChangeAt Go.RowKit
open Go.ChangeMaps (open_string shut_string)
set_option linter.unusedVariables false

theorem own : ownKnob Try.prog.godebug = none := by kernel_rfl
theorem laidOut : laidOutB Try.prog = true := by kernel_rfl

set_option maxRecDepth 100000

set_option maxHeartbeats 800000 in
theorem walk_long (a : Option Addr) (len cap : Nat) (w : World) (hlong : ∀ W, Hid (Below w.heap.size w W → Calls Try.prog 9 #[.slice a len cap] W fun e w' => e = .returned (.bool true) ∧ Below W.heap.size W w')) :
    Calls Try.prog 4 #[.slice a len cap] w fun e w' => e = .returned (.bool true) ∧ Below w.heap.size w w' := by
  have H := Lib.hid hlong
  clear hlong
  go_enter Try.func4, Try.ntmps4
  go_wp2_with fail
  refine (awake_any _).mono ?_
  rintro e w1 ⟨rfl, b1⟩
  replace b1 := Lib.hid b1
  go_wp2_with fail
  refine ((H.out _).out b1.out).mono ?_
  rintro e w2 ⟨rfl, k2⟩
  have b2 := Lib.hid (b1.out.trans (k2.mono b1.out.size))
  clear k2 b1
  go_wp2_with fail
  refine (awake_any _).mono ?_
  rintro e w3 ⟨rfl, k3⟩
  have b3 := Lib.hid (b2.out.trans (k3.mono b2.out.size))
  clear k3 b2
  go_wp2_with fail
  go_ret
  exact ⟨rfl, b3.out⟩

/-- What the loop keeps: the log's bytes are those of what is kept, and these lie in a row of their own. -/
def Inv (w : World) (b : Nat) (v : Value) (k : Nat) (wr : World) : Prop :=
  ∃ (l : List ByteArray) (p : Option Addr) (cap : Nat), l.length ≤ k ∧ Lg w.heap.size wr b (cat l) false p cap ∧ Row wr w.heap.size v l ∧ Below w.heap.size w wr

theorem app_cat {l : List ByteArray} {T : ByteArray} (h : errS (cat l) false T = 0) : appS (cat l) false T = cat (l ++ [T]) := by rw [appS, if_pos h, cat_snoc]
theorem full_cut (x : ByteArray) : x.extract 0 x.size = x := D.text_inj (by rw [D.bytes_take, List.take_of_length_le (by rw [D.bytesOf_len]; omega)])
/-- What a crash leaves: all of the record, or none. -/
theorem crash_cat {l : List ByteArray} {T : ByteArray} {keep : Int} (h : errS (cat l) false T = 0) :
    ∃ (m : List ByteArray) (Q : ByteArray), crS (cat l) false T keep = cat m ++ Q ∧ NoRec Q ∧ (m = l ∨ m = l ++ [T]) := by
  obtain ⟨hs, -, -⟩ := errS_zero h
  rw [crS, if_pos h]
  by_cases hk : keepN keep (recB T).size < (recB T).size
  · exact ⟨l, _, rfl, noRec_cut T _ (by omega) hk, Or.inl rfl⟩
  · have e : keepN keep (recB T).size = (recB T).size := by have := keepN_le keep (recB T).size; omega
    refine ⟨l ++ [T], ⟨#[]⟩, ?_, noRec_nil, Or.inr rfl⟩
    rw [e, full_cut, app_nil, cat_snoc]

theorem row_snoc {w : World} {base : Nat} {v : Value} {l : List ByteArray} {T : ByteArray} (o : w.ownsRow base 9 1 v (l.length + 1) (strsOf l ++ [.string T])) : Row w base v (l ++ [T]) := by
  show World.ownsRow _ _ _ _ _ (l ++ [T]).length (strsOf (l ++ [T]))
  rw [strsOf_snoc, List.length_append]
  exact o

set_option maxHeartbeats 3200000 in
theorem walk_short (a : Option Addr) (len cap : Nat) (K M : Nat → Int) (T : Nat → ByteArray) (w : World) (hops : IsOps w a len K M T) (hlen : len * 8 ≤ 65536)
    (hlong : ∀ W, Hid (Below w.heap.size w W → Calls Try.prog 9 #[.slice a len cap] W fun e w' => e = .returned (.bool false) ∧ Below W.heap.size W w')) :
    Calls Try.prog 4 #[.slice a len cap] w fun e w' => e = .returned (.bool true) ∧ Below w.heap.size w w' := by
  obtain ⟨i0, hi, hz0, hz1, hz2⟩ := info_parts Try.info9
  have H := Lib.hid hlong
  have hops0 := Lib.hid hops
  clear hlong hops
  go_enter Try.func4, Try.ntmps4
  go_wp2_with fail
  refine (awake_any _).mono ?_
  rintro e w1 ⟨rfl, b1⟩
  replace b1 := Lib.hid b1
  go_wp2_with fail
  refine ((H.out _).out b1.out).mono ?_
  rintro e w2 ⟨rfl, k2⟩
  have b2 := Lib.hid (b1.out.trans (k2.mono b1.out.size))
  clear k2 b1 H
  go_wp2_with fail
  refine (new_any _).mono ?_
  rintro e w3 ⟨rfl, t3, k3⟩
  have b3 := Lib.hid (b2.out.trans (k3.mono b2.out.size))
  have i3 : Hid (Inv w w2.heap.size (.slice none 0 0) 0 w3) := ⟨[], none, 0, Nat.le_refl _, ⟨t3.blk, own_base t3.own b2.out.size, t3.sz, b2.out.size⟩, World.ownsRow_nil _ _ _ _, b3.out⟩
  clear k3 t3 b2 b3
  generalize w2.heap.size = b at *
  go_wp2_with fail
  go_loopw [4, 18] (fun v i wr => ∃ k : Nat, k ≤ len ∧ i = .int .i64 k ∧ Hid (Inv w b v k wr)) (fun _ i _ => len - (intOf i).toNat)
  case atStart => exact ⟨0, by omega, rfl, i3⟩
  case round =>
    obtain ⟨k, hk, rfl, hinv⟩ := hrel
    obtain ⟨l, p, cp, hll, t, o, br⟩ := hinv.out
    replace t := Lib.hid t
    replace o := Lib.hid o
    replace br := Lib.hid br
    clear hinv i3
    by_cases hlt : k < len
    · obtain ⟨y, off, rfl, c0, c1, c2, hz, hl⟩ := hops0.out.at br.out k hlt
      clear hops0 hl
      generalize K k = kk at *
      generalize M k = mm at *
      generalize T k = tt at *
      have hlt2 : (k : Int) < len := by omega
      have o5 := Lib.hid (Op3.new wr kk mm tt)
      have z5 : Below wr.heap.size wr (wr.alloc (.cells #[.int .i64 kk, .int .i64 mm, .string tt] 31)) := (Below.refl _ _).alloc (Nat.le_refl _) _
      have t5 := Lib.hid (t.out.below z5)
      have r5 : Hid (Row (wr.alloc (.cells #[.int .i64 kk, .int .i64 mm, .string tt] 31)) w.heap.size u4 l) := own_below o.out z5
      have br5 : Hid (Below w.heap.size w (wr.alloc (.cells #[.int .i64 kk, .int .i64 mm, .string tt] 31))) := br.out.trans (z5.mono br.out.size)
      have d0 := o5.out.c0
      have d1 := o5.out.c1
      have d2 := o5.out.c2
      clear z5 t o br
      by_cases h2 : kk = 2
      · have e2 : (kk != 2) = false := by simp [h2]
        replace h2 := Lib.hid h2
        go_wp2_with fail
        clear c0 c1 c2 d0 d1 d2
        generalize wr.alloc (.cells #[.int .i64 kk, .int .i64 mm, .string tt] 31) = w5 at *
        generalize wr.heap.size = q at *
        refine (crash_any w5 b (cat l) tt false p cp mm t5.out).mono ?_
        rintro e w6 ⟨rfl, ⟨p6, cp6, t6⟩, T6⟩
        have o6 := Lib.hid (o5.out.turn t5.out T6)
        have r6 := Lib.hid (Row.turn r5.out t5.out T6)
        have br6 : Hid (Below w.heap.size w w6) := br5.out.trans (t5.out.turn T6)
        clear o5 r5 br5 T6 t5
        by_cases h0 : errS (cat l) false tt = 0
        · obtain ⟨m, Q, hS, hQ, hm⟩ := crash_cat (keep := mm) h0
          have hrec := Lib.hid (fun (W : World) (X : Lg w.heap.size W b (crS (cat l) false tt mm) (crT (cat l) false tt) p6 cp6) => recover_any W b _ Q m _ p6 cp6 X hS hQ)
          rw [h0]
          replace t6 := Lib.hid t6
          clear h0 hS hQ
          go_wp2_with fail
          refine (hrec.out _ t6.out).mono ?_
          rintro e w7 ⟨x, rfl, ox, t7, k7⟩
          have o7 := Lib.hid (o6.out.kept t6.out k7)
          have r7 := Lib.hid (Row.keep r6.out t6.out k7)
          have br7 : Hid (Below w.heap.size w w7) := br6.out.trans (k7.below t6.out.hb br6.out.size)
          have hne : Hid (∀ g, x.ownBlock = some g → u4.ownBlock ≠ some g) := fun g hg e => by
            have h1 := (own_lt ox hg).1
            have h2 := (own_lt r6.out e).2
            omega
          have hw7 := br7.out.size
          have hsx := (show w6.heap.size ≤ w7.heap.size from k7.size)
          clear o6 r6 br6 t6 k7 hrec
          have d2 := o7.out.c2
          obtain ⟨px, cx, rfl⟩ := own_slice ox
          obtain ⟨pv, cv, hv⟩ := own_slice r7.out
          subst hv
          replace ox := Lib.hid ox
          replace t7 := Lib.hid t7
          rcases hm with rfl | rfl
          · have el : ((m.length : Int) == (m.length : Int) + 1) = false := by simp; omega
            have hml : m.length ≤ 8192 := by omega
            go_wp2_with fail
            refine (same_any _ _ m _ (Row.strs ox.out) (Row.strs r7.out) (by omega)).mono ?_
            rintro e w8 ⟨rfl, b8⟩
            have i8 : Hid (Inv w b (.slice pv m.length cv) (k + 1) w8) := ⟨m, _, _, by omega, t7.out.below b8, own_below r7.out b8, br7.out.trans (b8.mono hw7)⟩
            clear b8 d2 o7 r7 ox t7 br7 hne
            go_wp2_with fail
            refine ⟨⟨k + 1, by omega, by go_num, i8⟩, ?_⟩
            simp [intOf]; omega
          · have hl1 : l.length ≤ 8192 := by omega
            go_wp2_with (at_builtin; refine wpList_append_own _ rfl _ _ 37 rfl w.heap.size 9 i0 (.string ByteArray.empty) 1 16 Try.underlying37 hi hz0 hz1 hz2 rfl (by decide) _ _ _ rfl (r7.out.alloc _) ⟨w7.heap.size, 0, none⟩ 1 1 [.string _] rfl rfl (one_new _ _) (one_cell _) (by unfold maxLen; omega) (by omega) (by simp; omega) ?_; intro v8 w8 ho8 hg8 _; have ho8 := Lib.hid ho8; have hg8 := Lib.hid hg8)
            have t8 := Lib.hid (Lg.grown t7.out r7.out hg8.out)
            have ox8 := Lib.hid (Row.grown ox.out hne.out hg8.out)
            have r8 := Lib.hid (row_snoc ho8.out)
            have br8 : Hid (Below w.heap.size w w8) := (br7.out.alloc hw7 _).grown hg8.out (by simp; omega) (fun k hk => (own_lt r7.out hk).1)
            clear t7 r7 ox hg8 ho8 br7 d2 o7 hne
            have sx := Row.strs ox8.out
            rw [show (l ++ [tt]).length = l.length + 1 by simp] at sx
            have sr := Row.strs r8.out
            refine (same_any _ _ (l ++ [tt]) _ sx sr (by simp; omega)).mono ?_
            rintro e w9 ⟨rfl, b9⟩
            have i9 : Hid (Inv w b v8 (k + 1) w9) := ⟨l ++ [tt], _, _, by simp; omega, t8.out.below b9, own_below r8.out b9, br8.out.trans (b9.mono br8.out.size)⟩
            clear b9 t8 ox8 r8 br8 sx sr
            go_wp2_with fail
            refine ⟨⟨k + 1, by omega, by go_num, i9⟩, ?_⟩
            simp [intOf]; omega
        · have e0 : ((errS (cat l) false tt : Int) != 0) = true := by simpa using h0
          rw [crS, if_neg h0, crT, if_neg h0] at t6
          have i6 : Hid (Inv w b u4 (k + 1) w6) := ⟨l, _, _, by omega, t6, r6.out, br6.out⟩
          replace h0 := Lib.hid h0
          clear t6 r6 br6 o6
          generalize errS (cat l) false tt = er at *
          go_wp2_with fail
          refine ⟨⟨k + 1, by omega, by go_num, i6⟩, ?_⟩
          simp [intOf]; omega
      · have e2 : (kk != 2) = true := by simpa using h2
        replace h2 := Lib.hid h2
        go_wp2_with fail
        clear c0 c1 c2 d0 d1 d2
        generalize wr.alloc (.cells #[.int .i64 kk, .int .i64 mm, .string tt] 31) = w5 at *
        generalize wr.heap.size = q at *
        refine (append_any w5 b (cat l) tt false p cp t5.out).mono ?_
        rintro e w6 ⟨rfl, ⟨p6, cp6, t6⟩, T6⟩
        have o6 := Lib.hid (o5.out.turn t5.out T6)
        have r6 := Lib.hid (Row.turn r5.out t5.out T6)
        have br6 : Hid (Below w.heap.size w w6) := br5.out.trans (t5.out.turn T6)
        clear o5 r5 br5 T6 t5
        have hw6 := br6.out.size
        by_cases h0 : errS (cat l) false tt = 0
        · rw [app_cat h0] at t6
          rw [h0]
          replace t6 := Lib.hid t6
          clear h0
          have d2 := o6.out.c2
          go_wp2_with (at_builtin; refine wpList_append_own _ rfl _ _ 37 rfl w.heap.size 9 i0 (.string ByteArray.empty) 1 16 Try.underlying37 hi hz0 hz1 hz2 rfl (by decide) _ _ _ rfl (r6.out.alloc _) ⟨w6.heap.size, 0, none⟩ 1 1 [.string _] rfl rfl (one_new _ _) (one_cell _) (by unfold maxLen; omega) (by omega) (by simp; omega) ?_; intro v8 w8 ho8 hg8 _; have ho8 := Lib.hid ho8; have hg8 := Lib.hid hg8)
          have t8 := Lib.hid (Lg.grown t6.out r6.out hg8.out)
          have r8 := Lib.hid (row_snoc ho8.out)
          have br8 : Hid (Below w.heap.size w w8) := (br6.out.alloc hw6 _).grown hg8.out (by simp; omega) (fun k hk => (own_lt r6.out hk).1)
          have i9 : Hid (Inv w b v8 (k + 1) w8) := ⟨l ++ [tt], _, _, by simp; omega, t8.out, r8.out, br8.out⟩
          refine ⟨⟨k + 1, by omega, by go_num, i9⟩, ?_⟩
          simp [intOf]; omega
        · have e0 : ((errS (cat l) false tt : Int) == 0) = false := by simpa using h0
          rw [appS, if_neg h0] at t6
          have i6 : Hid (Inv w b u4 (k + 1) w6) := ⟨l, _, _, by omega, t6, r6.out, br6.out⟩
          replace h0 := Lib.hid h0
          clear t6 r6 br6 o6
          generalize errS (cat l) false tt = er at *
          go_wp2_with fail
          refine ⟨⟨k + 1, by omega, by go_num, i6⟩, ?_⟩
          simp [intOf]; omega
    · obtain rfl : k = len := by omega
      clear hops0
      go_wp2_with fail
      refine (all_any wr b (cat l) ⟨#[]⟩ l false p cp t.out (app_nil _).symm noRec_nil).mono ?_
      rintro e w4 ⟨x, rfl, ox, b4⟩
      have r4 := Lib.hid (Row.strs (own_below o.out b4))
      replace ox := Lib.hid (Row.strs ox)
      have br4 : Hid (Below w.heap.size w w4) := br.out.trans (b4.mono br.out.size)
      clear b4 br t o
      go_wp2_with fail
      refine (same_any _ _ l _ ox.out r4.out (by omega)).mono ?_
      rintro e w5 ⟨rfl, b5⟩
      have br5 : Hid (Below w.heap.size w w5) := br4.out.trans (b5.mono br4.out.size)
      clear b5 br4 ox r4
      go_wp2_with fail
      go_ret
      exact ⟨rfl, br5.out⟩

theorem walk (a : Option Addr) (len cap : Nat) (K M : Nat → Int) (T : Nat → ByteArray) (w : World) (hops : IsOps w a len K M T) :
    Calls Try.prog 4 #[.slice a len cap] w fun e w' => e = .returned (.bool true) ∧ Below w.heap.size w w' := by
  by_cases h : 65536 < sumN T len
  · exact walk_long a len cap w fun W hW => (long_any a len cap K M T w W hops hW).mono fun e w' ⟨he, hb⟩ => ⟨by rw [he, decide_eq_true h], hb⟩
  · exact walk_short a len cap K M T w hops (by have := sumN_least T len; omega) fun W hW => (long_any a len cap K M T w W hops hW).mono fun e w' ⟨he, hb⟩ => ⟨by rw [he, decide_eq_false h], hb⟩

set_option maxRecDepth 100000 in
theorem lifted (os : Os) (started : os.Started) (H : Type) (enc : TypeId × Value → H) :
    ReturnsInHanded {} Try.checked os 4 .any (Rows.stableKeepsSpec.pre6 enc Try.prog Try.f4 Rows.stableKeepsRow.domain false) (Rows.stableKeepsSpec.post enc Try.prog Try.f4 false true false false) := by
  refine returnsInHanded_of_change (C := Try.checked) own started (by kernel_rfl) Try.func4
    (ChangeSpec.witness6 (enc := enc) (C := Try.checked) false ⟨#[], #[.slice none 0 0], []⟩ 8 (by kernel_rfl) (by kernel_rfl) (by kernel_rfl) (by kernel_rfl)) ?_
  intro W base args ds gs before hval0 hW _ _
  have hval : ∀ (j : Nat) t v, Try.f4.params[j]? = some t → args[j]? = some v → Value.okWide Try.prog W .any base t v := hval0
  have hW' := hW
  obtain ⟨p, q, hA0, hV, rfl, hfz, hnd⟩ := hW
  have hA : DataW.TrodAll enc Try.prog W 0 (fun _ => true) true Try.f4.params.toList args.toList ds p := hA0
  rw [Try.params4] at hA hval
  obtain ⟨v0, vs0, d0, ds0, p0, q0, hargs, rfl, rfl, h0, r0⟩ := trodAll_cons hA
  obtain ⟨rfl, rfl, rfl⟩ := trodAll_nil r0
  obtain rfl : args = #[v0] := by cases args; simp_all
  obtain ⟨rfl, rfl⟩ := trodVars_none hV
  obtain ⟨a0, len0, cap0, rfl⟩ := okWide_slice Try.underlying22 (hval 0 22 v0 rfl rfl)
  have k0 := h0
  have lt0 : ∀ x ∈ p0, x.block < W.heap.size := by obtain ⟨m, hm⟩ := k0; exact DataW.trod_lt m _ _ _ hm
  obtain ⟨K0, M0, T0, w0⟩ : ∃ K M T, IsOps W a0 len0 K M T := by
    obtain ⟨fuel, hf⟩ := h0
    exact isOps_of hf
  clear hA0 hval0
  refine (walk a0 len0 cap0 K0 M0 T0 W w0).mono fun e W' ⟨he, bel⟩ => ?_
  subst he
  exact ⟨_, rfl, _, _, _, [], _, [], hW', trodAll_mk1 (shut_bool Try.underlying4 _), (trodAll_cons_mk (Below.trod laidOut (by kernel_rfl) (of_decide_eq_true (by kernel_rfl)) k0 bel lt0) trodAll_mk0), rfl, bel.frame _, fun h => by cases h⟩

theorem over : Rows.stableKeepsRow.holds Try.pinned (OpenSpec.ofChange Rows.stableKeepsSpec) :=
  OpenClaim.holds_of_wide 4 Try.f4 rfl rfl rfl rfl rfl rfl rfl ⟨rfl, rfl, rfl, rfl, rfl⟩ rfl rfl rfl rfl rfl (by kernel_rfl) Try.func4 (by kernel_rfl)
    (of_decide_eq_true (by kernel_rfl)) (by unfold Func.isWrapper; first | (rw [if_pos (by decide +kernel)]; kernel_rfl) | (rw [if_neg (by decide +kernel)]; exact ⟨rfl, rfl⟩))
    (fun os started H enc _ => lifted os started H enc)

/-- The statement. -/
theorem proved : Rows.StableKeepsSaid := over
#print axioms proved
end Go.Proofs.Ytdkdkkledlolcaa.stableKeeps
