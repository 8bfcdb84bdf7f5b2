/-
  CronNames holds: a day's or a month's name says its number, in letters of either size; sunday is 0 and 7. No condition but the tables'.
-/
import Derived.Test.YtfeljdbodamflaaDoorLift
import Derived.BigQuiet
import Derived.Deep.DeepCutAuto
set_option linter.unusedVariables false
namespace Go.Proofs.YtfeljdbodamflaaDoor.cronNames
open Go.ChangeShapes Go.WideShapes Go.ChangeAt Go.RowKit Crn
open Go.ChangeMaps (open_string shut_string)

theorem place_of (c k : Int) (h0 : 0 < k) (hk : k ≤ 1000000000) :
    ∃ i : Nat, (i : Int) < k ∧ wrap64 ((IntKind.u64.wrap c).tmod k) = (i : Int) := by
  have e2 : 0 ≤ IntKind.u64.wrap c := by rw [IntKind.wrap_u64]; omega
  rw [IntWalk.rem_in _ _ e2]
  generalize IntKind.u64.wrap c = u at *
  have h1 := Int.emod_nonneg u (show k ≠ 0 by omega)
  have h2 := Int.emod_lt_of_pos u h0
  refine ⟨(u % k).toNat, by omega, ?_⟩
  unfold wrap64
  rw [Int.toNat_of_nonneg h1]
  omega

theorem month_list : ∀ m, m < 12 → ([106, 97, 110, 102, 101, 98, 109, 97, 114, 97, 112, 114, 109, 97, 121, 106, 117, 110, 106, 117, 108, 97, 117, 103, 115, 101, 112, 111, 99, 116, 110, 111, 118, 100, 101, 99].drop (3 * m)).take 3 = monthNames.getD m [] := by decide +kernel
theorem day_list : ∀ d, d < 8 → ([115, 117, 110, 109, 111, 110, 116, 117, 101, 119, 101, 100, 116, 104, 117, 102, 114, 105, 115, 97, 116, 115, 117, 110].drop (3 * d)).take 3 = dayNames.getD (d % 7) [] := by decide +kernel
theorem month_cut (m : Nat) (h : m < 12) : (⟨#[106, 97, 110, 102, 101, 98, 109, 97, 114, 97, 112, 114, 109, 97, 121, 106, 117, 110, 106, 117, 108, 97, 117, 103, 115, 101, 112, 111, 99, 116, 110, 111, 118, 100, 101, 99]⟩ : ByteArray).extract (3 * m) (3 * m + 3) = bs (monthNames.getD m []) := by
  rw [extract_bs, show 3 * m + 3 - 3 * m = 3 by omega]
  exact congrArg bs (month_list m h)
theorem day_cut (d : Nat) (h : d < 8) : (⟨#[115, 117, 110, 109, 111, 110, 116, 117, 101, 119, 101, 100, 116, 104, 117, 102, 114, 105, 115, 97, 116, 115, 117, 110]⟩ : ByteArray).extract (3 * d) (3 * d + 3) = bs (dayNames.getD (d % 7) []) := by
  rw [extract_bs, show 3 * d + 3 - 3 * d = 3 by omega]
  exact congrArg bs (day_list d h)
def less (b : UInt8) : UInt8 := b - 32
theorem month_len : ∀ m, m < 12 → (monthNames.getD m []).length = 3 ∧ ∀ b ∈ monthNames.getD m [], 97 ≤ b.toNat ∧ b.toNat ≤ 122 := by decide +kernel
theorem day_len : ∀ d, d < 8 → (dayNames.getD (d % 7) []).length = 3 ∧ ∀ b ∈ dayNames.getD (d % 7) [], 97 ≤ b.toNat ∧ b.toNat ≤ 122 := by decide +kernel
theorem less_nat {b : UInt8} (h : 97 ≤ b.toNat) : ((less b).toNat : Int) = (b.toNat : Int) - 32 := by
  have h : ∀ n : Nat, n < 256 → 97 ≤ n → (less (UInt8.ofNat n)).toNat = n - 32 := by decide +kernel
  have := h b.toNat b.toNat_lt (by omega)
  rw [UInt8.ofNat_toNat] at this
  omega
theorem says_names (m d : Nat) (hm : m < 12) (hd : d < 8) (up : Bool) :
    parse (front ++ (if up then (monthNames.getD m []).map less else monthNames.getD m []) ++ 32 :: (if up then (dayNames.getD (d % 7) []).map less else dayNames.getD (d % 7) [])) = some ⟨1, 1, 2, 2 ^ (m + 1), 2 ^ (d % 7), false, false, 0⟩ := by
  obtain ⟨p1, p2, p3, p4⟩ := names_plain
  have l1 := (month_len m hm).1
  have l2 := (day_len d hd).1
  have ne : ∀ l : Bytes, l.length = 3 → l ≠ [] := fun l h e => by rw [e] at h; cases h
  have hh : ∀ d, d < 8 → ((dayNames.getD (d % 7) []).head? == some 42) = false ∧ (((dayNames.getD (d % 7) []).map less).head? == some 42) = false := by decide +kernel
  cases up
  · exact parse_front (ne _ l1) (p1 m hm) (ne _ l2) (p3 d hd) (by simp only [Bool.false_eq_true, if_false]; omega) (month_name m hm) (day_name d hd) (hh d hd).1
  · exact parse_front (ne _ (by simpa using l1)) (p2 m hm) (ne _ (by simpa using l2)) (p4 d hd) (by simp only [if_true, List.length_map]; omega) (month_great m hm) (day_great d hd) (hh d hd).2
theorem says_numbers (m d : Nat) (hm : m < 12) (hd : d < 8) :
    parse (front ++ two (m + 1) ++ 32 :: [UInt8.ofNat (48 + d)]) = some ⟨1, 1, 2, 2 ^ (m + 1), 2 ^ (d % 7), false, false, 0⟩ := by
  have hb : ∀ m, m < 12 → ∀ b ∈ two (m + 1), isBlank b = false := by decide +kernel
  have hb2 : ∀ d, d < 8 → (∀ b ∈ [UInt8.ofNat (48 + d)], isBlank b = false) ∧ (([UInt8.ofNat (48 + d)] : Bytes).head? == some 42) = false := by decide +kernel
  exact parse_front (by simp [two]) (hb m hm) (by simp) (hb2 d hd).1 (by simp [two]) (month_number m hm) (day_number d hd) (hb2 d hd).2

theorem bytes_cap (w : World) (t : ByteArray) : ∃ cap w5, t.size ≤ cap ∧ (convert 9 37 (.string t)).run Tryd.prog w = .ok (.slice (some ⟨w.heap.size, 0, none⟩) t.size cap) w5 ∧ Below w.heap.size w w5 ∧ Buf w5 w.heap.size t.data.toList := by
  obtain ⟨cap, w5, h1, h2, h3⟩ := bytes_of w t
  refine ⟨cap, w5, ?_, h1, h2, h3⟩
  rw [Lib.run_convert_string_bytes w 9 37 5 t Tryd.underlying9 Tryd.underlying37 Tryd.underlying5] at h1
  injection h1 with h1
  injection h1 with _ _ h1
  rw [← h1]
  exact grownCap_ge _ _ _ _
theorem buf_text3 {w : World} {b : Nat} {l r : Bytes} (h : Buf w b (l ++ r)) (h3 : l.length = 3) (n cap : Nat) (hn : n = r.length) : (convert 37 9 (.slice (some ⟨b, 3, none⟩) n cap)).run Tryd.prog w = .ok (.string (bs r)) w := by
  have := run_convert_bytes_back (P := Tryd.prog) w 37 9 5 ⟨b, 3, none⟩ cap r Tryd.underlying37 Tryd.underlying5 Tryd.underlying9 (fun j hj => by
    have hadd : (⟨b, 3, none⟩ : Addr).add j = ⟨b, 3 + j, none⟩ := by unfold Addr.add; split <;> simp_all
    rw [hadd, h.1 (3 + j) (by rw [List.length_append]; omega), List.getElem_append_right (by omega)]
    simp [h3])
  rw [hn]
  exact this
theorem buf_front {w : World} {b : Nat} {l r : Bytes} (h : Buf w b (l ++ r)) : Buf w b l :=
  ⟨fun j hj => by rw [h.1 j (by rw [List.length_append]; omega), List.getElem_append_left hj], fun j hj => h.2 j (by rw [List.length_append]; omega)⟩
theorem Buf.drewN {w : World} {b : Nat} {l : Bytes} (h : Buf w b l) (n : Nat) : Buf (w.drewN n) b l := h

set_option maxRecDepth 100000 in
set_option maxHeartbeats 4000000 in
theorem walk_core (a0 a1 : Int) (up : Bool) (m d : Nat) (hm : m < 12) (hd : d < 8) (em : wrap64 ((IntKind.u64.wrap a0).tmod 12) = ↑m) (ed : wrap64 ((IntKind.u64.wrap a1).tmod 8) = ↑d) (ML DL ML' DL' : Bytes) (pm pd : Nat) (w : World) (tb : Tab w)
    (eM : (⟨#[106, 97, 110, 102, 101, 98, 109, 97, 114, 97, 112, 114, 109, 97, 121, 106, 117, 110, 106, 117, 108, 97, 117, 103, 115, 101, 112, 111, 99, 116, 110, 111, 118, 100, 101, 99]⟩ : ByteArray).extract (3 * m) (3 * m + 3) = bs ML)
    (eD : (⟨#[115, 117, 110, 109, 111, 110, 116, 117, 101, 119, 101, 100, 116, 104, 117, 102, 114, 105, 115, 97, 116, 115, 117, 110]⟩ : ByteArray).extract (3 * d) (3 * d + 3) = bs DL)
    (lM : ML.length = 3) (lD : DL.length = 3) (let_ : Hid (∀ b ∈ ML ++ DL, 97 ≤ b.toNat ∧ b.toNat ≤ 122)) (eM' : Hid (ML' = if up then ML.map less else ML)) (eD' : Hid (DL' = if up then DL.map less else DL))
    (C1 : Hid (∀ W, Tab W → Calls Tryd.prog 11 #[.string (bs [48, 32, 48, 32, 49, 32] ++ bs ML' ++ bs [32] ++ bs DL')] W fun e w' => e = .returned (.tuple #[.agg #[.int .u64 1, .int .u64 1, .int .u64 2, .int .u64 pm, .int .u64 pd, .bool false, .bool false, .int .i64 0], .int .i64 0]) ∧ Below W.heap.size W w'))
    (C2 : Hid (∀ W, Tab W → Calls Tryd.prog 11 #[.string (bs [48, 32, 48, 32, 49, 32] ++ bs (two (m + 1)) ++ bs [32] ++ bs [UInt8.ofNat (48 + d)])] W fun e w' => e = .returned (.tuple #[.agg #[.int .u64 1, .int .u64 1, .int .u64 2, .int .u64 pm, .int .u64 pd, .bool false, .bool false, .int .i64 0], .int .i64 0]) ∧ Below W.heap.size W w'))
    (hpm : (pm : Int) = IntKind.u64.wrap (2 ^ (m + 1))) (hpd : (pd : Int) = IntKind.u64.wrap (2 ^ (d % 7))) :
    Calls Tryd.prog 9 #[.int .i64 a0, .int .i64 a1, .bool up] w fun e w' => e = .returned (.bool true) ∧ Below w.heap.size w w' := by
  have hm2 : (m : Int) < 12 := by omega
  have hd2 : (d : Int) < 8 := by omega
  have lM' : Hid (ML'.length = 3) := by rw [eM'.out]; cases up <;> simp <;> exact lM
  have lD' : Hid (DL'.length = 3) := by rw [eD'.out]; cases up <;> simp <;> exact lD
  replace hpm := Lib.hid hpm
  replace hpd := Lib.hid hpd
  go_enter Tryd.func9, Tryd.ntmps9
  go_upto_region 4 with fail
  rw [eM, eD]
  simp only [em, ed]
  clear eM eD em ed
  go_upto_if 35 with fail
  go_cut [7, 8] from 9 (fun a b wc => a = .string (bs ML') ∧ b = .string (bs DL') ∧ Hid (Below w.heap.size w wc))
  case first =>
    clear C1 C2 tb hpm hpd
    cases up with
    | false =>
      have h1 := eM'.out
      have h2 := eD'.out
      simp only [Bool.false_eq_true, if_false] at h1 h2
      subst h1
      subst h2
      go_wp2_with fail
      go_meet
      exact ⟨rfl, rfl, Below.refl _ _⟩
    | true =>
      have h1 := eM'.out
      have h2 := eD'.out
      simp only [if_true] at h1 h2
      clear eM' eD'
      obtain ⟨cap, w5, hcap, hcv, b5, f5⟩ := bytes_cap w (bs ML ++ bs DL)
      have hs6 : (bs ML ++ bs DL).size = 6 := by simp only [ByteArray.size_append, bs_size]; omega
      have hz : ¬ 9223372036854775807 < (bs ML).size + (bs DL).size := by simp only [bs_size]; omega
      have f6 : Buf w5 w.heap.size (ML ++ DL) := by
        have : (bs ML ++ bs DL).data.toList = ML ++ DL := by rw [bs_append, bs_toList]
        rw [← this]
        exact f5
      rw [hs6] at hcv hcap
      replace b5 := Lib.hid b5
      replace f6 := Lib.hid f6
      replace h1 := Lib.hid h1
      replace h2 := Lib.hid h2
      have hl6 : (ML ++ DL).length = 6 := by simp; omega
      have hcap2 : (6 : Int) ≤ cap := by omega
      clear f5
      generalize bs ML = MB at *
      generalize bs DL = DB at *
      go_wp2_with fail
      clear hcv
      go_loopw [42] (fun i wr => ∃ k : Nat, k ≤ 6 ∧ i = .int .i64 k ∧ Hid (Buf wr w.heap.size (mapTo less (ML ++ DL) k)) ∧ Hid (Below w.heap.size w wr)) (fun i _ => 6 - (intOf i).toNat)
      case atStart => exact ⟨0, by omega, rfl, by rw [mapTo_zero]; exact f6, b5⟩
      case round =>
        obtain ⟨k, hk, rfl, hf, hb⟩ := hrel
        clear f6 b5
        by_cases hlt : k < 6
        · have hl : k < (ML ++ DL).length := by omega
          have hc : wr.cell? ⟨w.heap.size, k, none⟩ = some (.int .u8 ((ML ++ DL)[k].toNat : Nat)) := by
            have h1 : k < (mapTo less (ML ++ DL) k).length := by rw [mapTo_len]; exact hl
            rw [hf.out.1 k h1, mapTo_get _ _ _ hl]
          have hzz : wr.frozen? ⟨w.heap.size, k, none⟩ = false := hf.out.2 k (by rw [mapTo_len]; exact hl)
          have hset := Lib.hid (mapTo_set less (ML ++ DL) k hl)
          obtain ⟨g1, g2⟩ := let_.out (ML ++ DL)[k] (List.getElem_mem hl)
          have hv := Lib.hid (less_nat g1)
          generalize (ML ++ DL)[k] = x at *
          go_wp2_with fail
          refine ⟨⟨k + 1, by omega, by go_num, ?_, hb.out.setCell (Nat.le_refl _) _⟩, by simp [intOf]; omega⟩
          rw [← hset.out]
          exact hf.out.set (by rw [mapTo_len]; exact hl) (less x) (by have := hv.out; omega)
        · have hk6 : k = (ML ++ DL).length := by omega
          have hbuf : Buf wr w.heap.size (ML' ++ DL') := by
            have := hf.out
            rw [hk6, mapTo_end, List.map_append, ← h1.out, ← h2.out] at this
            exact this
          have q1 : ∀ n, (convert 37 9 (.slice (some ⟨w.heap.size, 0, none⟩) 3 cap)).run Tryd.prog (wr.drewN n) = .ok (.string (bs ML')) (wr.drewN n) := fun n => Buf.text (buf_front (Buf.drewN hbuf n)) 3 cap lM'.out.symm
          have q2 : ∀ n, (convert 37 9 (.slice (some ⟨w.heap.size, 3, none⟩) 3 (cap - 3))).run Tryd.prog (wr.drewN n) = .ok (.string (bs DL')) (wr.drewN n) := fun n => buf_text3 (Buf.drewN hbuf n) lM'.out 3 (cap - 3) lD'.out.symm
          clear hbuf hf
          go_upto_region 11 with fail
          go_quiet (fail)
          have b7 : Hid (Below w.heap.size w (wr.drewN nq)) := Go.below_drewN hb.out nq
          clear q1 q2
          generalize wr.drewN nq = w3 at *
          go_wp2_with fail
          go_meet
          exact ⟨rfl, rfl, b7⟩
  case rest =>
    obtain ⟨rfl, rfl, b1⟩ := hcut
    have tb1 := Lib.hid (tb.below b1.out)
    have c1 := Lib.hid (C1.out _ tb1.out)
    have z1 : (bs ML').size = 3 := by rw [bs_size]; exact lM'.out
    have z2 : (bs DL').size = 3 := by rw [bs_size]; exact lD'.out
    have z3 : (bs (two (m + 1))).size = 2 := by rw [bs_size]; rfl
    have z4 : (bs [UInt8.ofNat (48 + d)]).size = 1 := by rw [bs_size]; rfl
    have z5 : (bs [48, 32, 48, 32, 49, 32]).size = 6 := by rw [bs_size]; rfl
    have z6 : (bs [32]).size = 1 := by rw [bs_size]; rfl
    clear eM' eD' lM' lD' let_ lM lD tb C1
    generalize bs ML' = MB at *
    generalize bs DL' = DB at *
    have s1 : ¬ 9223372036854775807 < (bs [48, 32, 48, 32, 49, 32]).size + MB.size := by omega
    have s2 : ¬ 9223372036854775807 < (bs [48, 32, 48, 32, 49, 32] ++ MB).size + (bs [32]).size := by rw [ByteArray.size_append]; omega
    have s3 : ¬ 9223372036854775807 < (bs [48, 32, 48, 32, 49, 32] ++ MB ++ bs [32]).size + DB.size := by rw [ByteArray.size_append, ByteArray.size_append]; omega
    go_wp2_with fail
    refine c1.out.mono ?_
    rintro e w2 ⟨rfl, k2⟩
    have kk := (Below.refl w2.heap.size w2).alloc (Nat.le_refl _) (.cells #[.int .u64 1, .int .u64 1, .int .u64 2, .int .u64 pm, .int .u64 pd, .bool false, .bool false, .int .i64 0] 25)
    have b2 := Lib.hid (b1.out.trans ((k2.trans (kk.mono k2.size)).mono b1.out.size))
    have L2 := Lib.hid (Lies.start w2 [.int .u64 1, .int .u64 1, .int .u64 2, .int .u64 pm, .int .u64 pd, .bool false, .bool false, .int .i64 0] 25 #[.int .u64 1, .int .u64 1, .int .u64 2, .int .u64 pm, .int .u64 pd, .bool false, .bool false, .int .i64 0] rfl)
    have tb2 := Lib.hid ((tb1.out.below k2).below kk)
    clear k2 kk c1 b1 tb1 s1 s2 s3
    go_upto_region 13 with fail
    generalize w2.alloc (.cells #[.int .u64 1, .int .u64 1, .int .u64 2, .int .u64 pm, .int .u64 pd, .bool false, .bool false, .int .i64 0] 25) = v2 at *
    generalize w2.heap.size = gx at *
    have d1 := digit_byte (d := (m + 1) / 10) (by omega)
    have d2 := digit_byte (d := (m + 1) % 10) (by omega)
    have d3 := digit_byte (d := d) (by omega)
    have hb1 := buf_new v2 (two (m + 1)) #[.int .u8 (48 + ((m + 1) / 10 : Nat) : Int), .int .u8 (48 + ((m + 1) % 10 : Nat) : Int)] (by rw [d1, d2]; rfl)
    have hcv1 := hb1.text 2 2 rfl
    rw [show (((m + 1) / 10 : Nat) : Int) = ((m : Int) + 1) / 10 by omega, show (((m + 1) % 10 : Nat) : Int) = ((m : Int) + 1) % 10 by omega] at hcv1
    have hb2 := buf_new (v2.alloc (.cells #[.int .u8 (48 + ((m : Int) + 1) / 10), .int .u8 (48 + ((m : Int) + 1) % 10)] 5)) [UInt8.ofNat (48 + d)] #[.int .u8 (48 + (d : Int))] (by rw [d3]; rfl)
    have hcv2 := hb2.text 1 1 rfl
    rw [show (v2.alloc (.cells #[.int .u8 (48 + ((m : Int) + 1) / 10), .int .u8 (48 + ((m : Int) + 1) % 10)] 5)).heap.size = v2.heap.size + 1 by simp] at hcv2
    clear d1 d2 d3 hb1 hb2
    have ka := (Below.refl v2.heap.size v2).alloc (Nat.le_refl _) (.cells #[.int .u8 (48 + ((m : Int) + 1) / 10), .int .u8 (48 + ((m : Int) + 1) % 10)] 5)
    have kb := (ka.alloc ka.size (.cells #[.int .u8 (48 + (d : Int))] 5))
    have L3 := Lib.hid (L2.out.step (Nat.zero_lt_succ _) kb)
    have b3 := Lib.hid (b2.out.trans (kb.mono b2.out.size))
    have tb3 := Lib.hid (tb2.out.below kb)
    have c2 := Lib.hid (C2.out _ tb3.out)
    have s1 : ¬ 9223372036854775807 < (bs [48, 32, 48, 32, 49, 32]).size + (bs (two (m + 1))).size := by omega
    have s2 : ¬ 9223372036854775807 < (bs [48, 32, 48, 32, 49, 32] ++ bs (two (m + 1))).size + (bs [32]).size := by rw [ByteArray.size_append]; omega
    have s3 : ¬ 9223372036854775807 < (bs [48, 32, 48, 32, 49, 32] ++ bs (two (m + 1)) ++ bs [32]).size + (bs [UInt8.ofNat (48 + d)]).size := by rw [ByteArray.size_append, ByteArray.size_append]; omega
    clear ka kb L2 b2 tb2 C2
    generalize bs (two (m + 1)) = T1 at *
    generalize bs [UInt8.ofNat (48 + d)] = T2 at *
    go_wp2_with fail
    refine c2.out.mono ?_
    clear hcv1 hcv2 s1 s2 s3
    generalize (v2.alloc (.cells #[.int .u8 (48 + ((m : Int) + 1) / 10), .int .u8 (48 + ((m : Int) + 1) % 10)] 5)).alloc (.cells #[.int .u8 (48 + (d : Int))] 5) = v3 at *
    rintro e w4 ⟨rfl, k4⟩
    have kk := (Below.refl w4.heap.size w4).alloc (Nat.le_refl _) (.cells #[.int .u64 1, .int .u64 1, .int .u64 2, .int .u64 pm, .int .u64 pd, .bool false, .bool false, .int .i64 0] 25)
    have b4 := (b3.out.trans ((k4.trans (kk.mono k4.size)).mono b3.out.size))
    have L4 := ((L3.out.step (Nat.zero_lt_succ _) k4).step (Nat.zero_lt_succ _) kk)
    have M4 := (Lies.start w4 [.int .u64 1, .int .u64 1, .int .u64 2, .int .u64 pm, .int .u64 pd, .bool false, .bool false, .int .i64 0] 25 #[.int .u64 1, .int .u64 1, .int .u64 2, .int .u64 pm, .int .u64 pd, .bool false, .bool false, .int .i64 0] rfl)
    have tb4 := ((tb3.out.below k4).below kk)
    clear k4 kk c2 b3 tb3 L3
    go_upto_region 14 with fail
    generalize w4.alloc (.cells #[.int .u64 1, .int .u64 1, .int .u64 2, .int .u64 pm, .int .u64 pd, .bool false, .bool false, .int .i64 0] 25) = v4 at *
    generalize w4.heap.size = gy at *
    have hS : Hid (∀ W, Below v4.heap.size v4 W → (fun w' : World => (w'.cell? ⟨gx, 0, none⟩ = some (.int .u64 1) ∧ w'.cell? ⟨gx, 1, none⟩ = some (.int .u64 1) ∧ w'.cell? ⟨gx, 2, none⟩ = some (.int .u64 2) ∧ w'.cell? ⟨gx, 3, none⟩ = some (.int .u64 pm) ∧ w'.cell? ⟨gx, 4, none⟩ = some (.int .u64 pd) ∧ w'.cell? ⟨gx, 5, none⟩ = some (.bool false) ∧ w'.cell? ⟨gx, 6, none⟩ = some (.bool false) ∧ w'.cell? ⟨gx, 7, none⟩ = some (.int .i64 0)) ∧ w'.cell? ⟨gy, 0, none⟩ = some (.int .u64 1) ∧ w'.cell? ⟨gy, 1, none⟩ = some (.int .u64 1) ∧ w'.cell? ⟨gy, 2, none⟩ = some (.int .u64 2) ∧ w'.cell? ⟨gy, 3, none⟩ = some (.int .u64 pm) ∧ w'.cell? ⟨gy, 4, none⟩ = some (.int .u64 pd) ∧ w'.cell? ⟨gy, 5, none⟩ = some (.bool false) ∧ w'.cell? ⟨gy, 6, none⟩ = some (.bool false) ∧ w'.cell? ⟨gy, 7, none⟩ = some (.int .i64 0)) W) := fun W k => ⟨(L4.step (Nat.zero_lt_succ _) k).eight, (M4.step (Nat.zero_lt_succ _) k).eight⟩
    have hcA := hS.out _ (Below.refl _ _)
    have hcB := hS.out v4.drew (Below.refl _ _).drew
    have hb : Hid (Below v4.heap.size v4 v4.drew) := (Below.refl _ _).drew
    have ca := Lib.hid (awake_any v4.drew (tb4.below (Below.refl _ _).drew))
    replace b4 := Lib.hid b4
    have w1 : IntKind.i64.wrap ((m : Int) + 1) = (m : Int) + 1 := IntWalk.i64_in _ (by omega)
    have w2 : ((m : Int) + 1).toNat = m + 1 := by omega
    have w3 : (d : Int).tmod 7 = ((d % 7 : Nat) : Int) := by rw [Int.tmod_eq_emod_of_nonneg (by omega)]; omega
    have w4 : Hid (((d : Int) % 7).toNat = d % 7) := by show _ = _; omega
    have q1 := hpm.out
    have q2 := hpd.out
    clear L4 M4 tb4 hpm hpd
    dsimp only at hcA hcB
    go_region_held3 (fun w' => (w'.cell? ⟨gx, 0, none⟩ = some (.int .u64 1) ∧ w'.cell? ⟨gx, 1, none⟩ = some (.int .u64 1) ∧ w'.cell? ⟨gx, 2, none⟩ = some (.int .u64 2) ∧ w'.cell? ⟨gx, 3, none⟩ = some (.int .u64 pm) ∧ w'.cell? ⟨gx, 4, none⟩ = some (.int .u64 pd) ∧ w'.cell? ⟨gx, 5, none⟩ = some (.bool false) ∧ w'.cell? ⟨gx, 6, none⟩ = some (.bool false) ∧ w'.cell? ⟨gx, 7, none⟩ = some (.int .i64 0)) ∧ w'.cell? ⟨gy, 0, none⟩ = some (.int .u64 1) ∧ w'.cell? ⟨gy, 1, none⟩ = some (.int .u64 1) ∧ w'.cell? ⟨gy, 2, none⟩ = some (.int .u64 2) ∧ w'.cell? ⟨gy, 3, none⟩ = some (.int .u64 pm) ∧ w'.cell? ⟨gy, 4, none⟩ = some (.int .u64 pd) ∧ w'.cell? ⟨gy, 5, none⟩ = some (.bool false) ∧ w'.cell? ⟨gy, 6, none⟩ = some (.bool false) ∧ w'.cell? ⟨gy, 7, none⟩ = some (.int .i64 0)) (first | (with_reducible exact hc6) | (with_reducible exact hcB) | (with_reducible exact hcA) | go_keep)
      (first
        | (go_at_call 10; (with_reducible refine (ca.out).mono ?_); rintro e w6 ⟨rfl, k6⟩; replace hb := Lib.hid (hb.out.trans (k6.mono hb.out.size)); have hc6 := hS.out _ hb.out; clear k6))
    all_goals
      go_wp2_with fail
      go_ret
      exact ⟨by simp [w4.out], b4.out.trans (hb.out.mono b4.out.size)⟩

theorem walk (a0 : Int) (_ : (Lit.int .i64 a0).wf = true) (a1 : Int) (_ : (Lit.int .i64 a1).wf = true) (up : Bool) (w : World) (tb : Tab w) :
    Calls Tryd.prog 9 #[.int .i64 a0, .int .i64 a1, .bool up] w fun e w' => e = .returned (.bool true) ∧ Below w.heap.size w w' := by
  obtain ⟨m, hm', em⟩ := place_of a0 12 (by omega) (by omega)
  obtain ⟨d, hd', ed⟩ := place_of a1 8 (by omega) (by omega)
  have hm : m < 12 := by omega
  have hd : d < 8 := by omega
  obtain ⟨lM, tM⟩ := month_len m hm
  obtain ⟨lD, tD⟩ := day_len d hd
  have lM' : (if up then (monthNames.getD m []).map less else monthNames.getD m []).length = 3 := by cases up <;> simp <;> exact lM
  have lD' : (if up then (dayNames.getD (d % 7) []).map less else dayNames.getD (d % 7) []).length = 3 := by cases up <;> simp <;> exact lD
  refine walk_core a0 a1 up m d hm hd em ed (monthNames.getD m []) (dayNames.getD (d % 7) []) (if up then (monthNames.getD m []).map less else monthNames.getD m []) (if up then (dayNames.getD (d % 7) []).map less else dayNames.getD (d % 7) []) (2 ^ (m + 1)) (2 ^ (d % 7)) w tb
    (month_cut m hm) (day_cut d hd) lM lD (fun b hb => ?_) rfl rfl (fun W t => ?_) (fun W t => ?_) (wrap_pow (by omega)).symm (wrap_pow (by omega)).symm
  · rcases List.mem_append.1 hb with h | h
    · exact tM b h
    · exact tD b h
  · have c := cParse_any (bs [48, 32, 48, 32, 49, 32] ++ bs (if up then (monthNames.getD m []).map less else monthNames.getD m []) ++ bs [32] ++ bs (if up then (dayNames.getD (d % 7) []).map less else dayNames.getD (d % 7) [])) W t (by
      simp only [ByteArray.size_append, bs_size, lM', lD']
      decide)
    have e : (bs [48, 32, 48, 32, 49, 32] ++ bs (if up then (monthNames.getD m []).map less else monthNames.getD m []) ++ bs [32] ++ bs (if up then (dayNames.getD (d % 7) []).map less else dayNames.getD (d % 7) [])).data.toList = front ++ (if up then (monthNames.getD m []).map less else monthNames.getD m []) ++ 32 :: (if up then (dayNames.getD (d % 7) []).map less else dayNames.getD (d % 7) []) := by
      rw [bs_append, bs_append, bs_append, bs_toList, List.append_assoc _ [32]]
      rfl
    rw [e, says_names m d hm hd up] at c
    exact c
  · have c := cParse_any (bs [48, 32, 48, 32, 49, 32] ++ bs (two (m + 1)) ++ bs [32] ++ bs [UInt8.ofNat (48 + d)]) W t (by
      simp only [ByteArray.size_append, bs_size]
      exact Nat.le_of_ble_eq_true rfl)
    have e : (bs [48, 32, 48, 32, 49, 32] ++ bs (two (m + 1)) ++ bs [32] ++ bs [UInt8.ofNat (48 + d)]).data.toList = front ++ two (m + 1) ++ 32 :: [UInt8.ofNat (48 + d)] := by
      rw [bs_append, bs_append, bs_append, bs_toList]
      rfl
    rw [e, says_numbers m d hm hd] at c
    exact c

set_option maxRecDepth 100000 in
theorem contract (H : Type) (enc : TypeId × Value → H) (W : World) (base : Nat) (args : Array Value) (ds gs : List (DataW H)) (before : List MemPlace)
    (hval : ∀ (j : Nat) t v, Tryd.f9.params[j]? = some t → args[j]? = some v → Value.okWide Tryd.prog W .any base t v)
    (hW : DataW.Whole enc Tryd.prog Tryd.f9.params.toList Rows.cronNamesSpec.vars false W args.toList ds gs before) (hL : laidMetH Tryd.prog Rows.cronNamesRow.laid W) (hS : W.ShapedOpen Tryd.prog) :
    Calls Tryd.prog 9 args W fun e W' => ∃ v, e = .returned v ∧ Rows.cronNamesSpec.post enc Tryd.prog Tryd.f9 false true false false W args v W' := by
  have hW' := hW
  obtain ⟨p, q, hA0, hV, rfl, hfz, hnd⟩ := hW
  have hA : DataW.TrodAll enc Tryd.prog W 0 (fun _ => true) true Tryd.f9.params.toList args.toList ds p := hA0
  rw [Tryd.params9] at hA hval
  obtain ⟨v0, vs0, d0, ds0, p0, q0, hargs, rfl, rfl, h0, r0⟩ := trodAll_cons hA
  obtain ⟨v1, vs1, d1, ds1, p1, q1, rfl, rfl, rfl, h1, r1⟩ := trodAll_cons r0
  obtain ⟨v2, vs2, d2, ds2, p2, q2, rfl, rfl, rfl, h2, r2⟩ := trodAll_cons r1
  obtain ⟨rfl, rfl, rfl⟩ := trodAll_nil r2
  obtain rfl : args = #[v0, v1, v2] := by clear hL hS hW' hval; cases args; simp_all
  obtain ⟨rfl, rfl⟩ := trodVars_none hV
  obtain ⟨a0, rfl, rfl, rfl, w0⟩ := open_int Tryd.underlying3 (hval 0 3 v0 rfl rfl) h0
  obtain ⟨a1, rfl, rfl, rfl, w1⟩ := open_int Tryd.underlying3 (hval 1 3 v1 rfl rfl) h1
  obtain ⟨a2, rfl, rfl, rfl⟩ := open_bool Tryd.underlying4 (hval 2 4 v2 rfl rfl) h2
  clear hA0
  simp only [List.append_nil] at hW'
  refine (walk a0 w0 a1 w1 a2 W (table hL hS)).mono fun e W' ⟨he, hg⟩ => ?_
  subst he
  exact ⟨_, rfl, _, _, _, [], [], [], hW', trodAll_cons_mk (shut_bool Tryd.underlying4 _) trodAll_mk0, trodAll_cons_mk (shut_int Tryd.underlying3 w0) (trodAll_cons_mk (shut_int Tryd.underlying3 w1) (trodAll_cons_mk (shut_bool Tryd.underlying4 _) trodAll_mk0)), rfl, hg.frame _, fun h => by cases h⟩

theorem reads (os : Os) {H : Type} (enc : TypeId × Value → H) : ∃ places, DataW.whole enc Tryd.prog ((laidWorld os).forCall (fun _ _ => 0) ⟨#[], #[.int .i64 0, .int .i64 0, .bool false], []⟩).memory Tryd.f9.params.toList Rows.cronNamesSpec.vars false (#[.int .i64 0, .int .i64 0, .bool false] : Array Value).toList 8 = some ([.lit (.int .i64 0), .lit (.int .i64 0), .lit (.bool false)], [], places) :=
  ⟨[], by kernel_rfl⟩

set_option maxRecDepth 100000 in
theorem lifted (os : Os) (started : os.Started) (H : Type) (enc : TypeId × Value → H) (F : Stop.Interp) :
    ReturnsInHanded {} Tryd.checked os 9 .any ((OpenSpec.ofChange Rows.cronNamesSpec).preRow enc Tryd.prog Tryd.f9 Rows.cronNamesRow.domain false Rows.cronNamesRow.laid) (((OpenSpec.ofChange Rows.cronNamesSpec).at F).post enc Tryd.prog Tryd.f9 false true false false) := by
  obtain ⟨places, hx⟩ := reads os enc
  refine returnsInHanded_of_row (C := Tryd.checked) (s := OpenSpec.ofChange Rows.cronNamesSpec) own started (by kernel_rfl) Tryd.func9
    (witness_row_at (enc := enc) (C := Tryd.checked) false (laidWorld os) #[.int .i64 0, .int .i64 0, .bool false] (World.laidAll_os _ _ _) (by kernel_rfl) (by kernel_rfl) (by kernel_rfl)
      (OpenSpec.preRow_of_cond 8 hx (by kernel_rfl) (fun k hk => by cases hk) (by kernel_rfl) (laid_met os _))) ?_
  intro W base args ds gs before hval hW _ _ _ hL hS _
  exact contract H enc W base args ds gs before hval hW hL hS

theorem said : Rows.CronNamesSaid :=
  OpenClaim.holds_of_cond 9 Tryd.f9 rfl rfl rfl rfl rfl rfl rfl ⟨rfl, rfl, rfl, rfl, rfl⟩ rfl rfl rfl rfl rfl (by kernel_rfl) Tryd.func9 (by kernel_rfl)
    (of_decide_eq_true (by kernel_rfl)) (by unfold Func.isWrapper; first | (rw [if_pos (by decide +kernel)]; kernel_rfl) | (rw [if_neg (by decide +kernel)]; exact ⟨rfl, rfl⟩))
    (fun os started H enc _ F => by rw [OpenClaim.pre_eq_preRow]; exact lifted os started H enc F)

theorem plain (f : FuncId) (fn : Func) (hf : Tryd.pinned.checked.prog.funcNamed "tompion/tompionlaw04.CronNames" = some f) (hfn : Tryd.pinned.checked.prog.funcs[f]? = some fn) :
    false = Tryd.pinned.checked.prog.looks [] ∧ ∀ (j : Nat) t, fn.params[j]? = some t → Tryd.pinned.checked.prog.wantsStandIn t = false := by
  obtain rfl : f = 9 := Option.some.inj ((show Tryd.prog.funcNamed "tompion/tompionlaw04.CronNames" = some 9 by kernel_rfl).symm.trans hf) |>.symm
  obtain rfl : fn = Tryd.f9 := (Option.some.inj (Tryd.func9.symm.trans hfn)).symm
  refine ⟨by kernel_rfl, fun j t ht => ?_⟩
  rw [Tryd.params9] at ht
  have hm := Array.mem_of_getElem? ht
  simp at hm
  rcases hm with rfl | rfl
  · exact (show Tryd.prog.wantsStandIn 3 = false by kernel_rfl)
  · exact (show Tryd.prog.wantsStandIn 4 = false by kernel_rfl)

/-- The statement: the card, its tables tied to the program's text. -/
theorem proved : Rows.CronNamesCardSaid :=
  Claim7.holds_tied_plain_at .later [] _ _ _ _ said (fun _ h => by cases h) (by kernel_rfl) (fun _ h => by cases h) cronNames_row_tie rfl ⟨rfl, rfl⟩ (by kernel_rfl) rfl plain (by kernel_rfl)
#print axioms proved
end Go.Proofs.YtfeljdbodamflaaDoor.cronNames
