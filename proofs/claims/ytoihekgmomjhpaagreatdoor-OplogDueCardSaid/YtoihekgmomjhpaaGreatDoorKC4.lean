/-
  Texts laid into one (a claim has 60 files at most): CFld, CFields, CWeek, Parse.
-/
import Derived.Test.YtoihekgmomjhpaaGreatDoorKC3
import Derived.Laws.Rows
import Derived.Laws.Tables
import Derived.Laws.CopyOwn
import Derived.Test.YtoihekgmomjhpaaGreatDoorKC2
import Derived.Laws.ResultCell
import Derived.Deep.RegionHeld3
import Derived.Deep.DeepCutAuto
/-
  The program's parsePart and the field's parse (layer 4).
-/
set_option linter.unusedVariables false
namespace Go.Proofs.YtoihekgmomjhpaaGreatDoor
open Go.RowKit Crn
/-- The field as it lies while parsePart, or parse, runs. -/
structure Fld (w wr : World) (lo hi : Nat) (m : Value) (f : Nat) : Prop where
  c0 : wr.cell? ⟨w.heap.size, 0, none⟩ = some (.int .i64 lo)
  c1 : wr.cell? ⟨w.heap.size, 1, none⟩ = some (.int .i64 hi)
  c2 : wr.cell? ⟨w.heap.size, 2, none⟩ = some m
  size : w.heap.size + 1 ≤ wr.heap.size
  below : Below w.heap.size w wr
  names : NamesAt wr m f
  tab : Tab wr
theorem Fld.less {w wr : World} {lo hi f : Nat} {m : Value} (h : Fld w wr lo hi m f) : w.heap.size ≤ wr.heap.size := Nat.le_trans (Nat.le_succ _) h.size
theorem Fld.step {w wr w' : World} {lo hi f : Nat} {m : Value} (h : Fld w wr lo hi m f) (k : Below wr.heap.size wr w') : Fld w w' lo hi m f := by
  have s0 : w.heap.size < wr.heap.size := by have := h.size; omega
  exact ⟨(k.cell (p := ⟨w.heap.size, 0, none⟩) s0).trans h.c0, (k.cell (p := ⟨w.heap.size, 1, none⟩) s0).trans h.c1, (k.cell (p := ⟨w.heap.size, 2, none⟩) s0).trans h.c2,
    Nat.le_trans h.size k.size, h.below.trans (k.mono h.less), h.names.below k (Nat.le_refl _), h.tab.below k⟩
theorem Fld.start (w : World) (lo hi f : Nat) (m : Value) (t : Tab w) (hN : NamesAt w m f) : Fld w (w.alloc (.cells #[.int .i64 lo, .int .i64 hi, m] 243)) lo hi m f := by
  have b1 : Below w.heap.size w (w.alloc (.cells #[.int .i64 lo, .int .i64 hi, m] 243)) := (Below.refl _ _).alloc (Nat.le_refl _) _
  refine ⟨?_, ?_, ?_, by simp, b1, hN.below b1 (Nat.le_refl _), t.below b1⟩
  all_goals rw [World.cell?_alloc_new]; rfl
theorem cut_len (c : UInt8) (s x y : Bytes) (t : Bool) (h : Lib.cut s [c] = (x, y, t)) : x.length ≤ s.length ∧ y.length ≤ s.length := by
  rcases first_of (c := c) (s := s) with g | ⟨a, b, rfl, g⟩
  · rw [cut_none g] at h
    cases h
    simp
  · rw [cut_at g] at h
    cases h
    simp
    omega
set_option maxRecDepth 100000 in
set_option maxHeartbeats 4000000 in
theorem parsePart_any (f : Nat) (m : Value) (s : ByteArray) (w : World) (hf : f < 5) (hs : s.size ≤ 1000) (tb : Tab w) (hN : NamesAt w m f) :
    Calls Tryz.prog 187 #[fieldV f m, .string s] w fun e w' => e = answer (partU f s.data.toList) ∧ Below w.heap.size w w' := by
  obtain ⟨l1, l2, l3⟩ := low_high f hf
  have hR := Lib.hid (Fld.start w (low f) (high f) f m tb hN)
  have Cc : Hid (∀ W, Tab W → Calls Tryz.prog 208 #[.string s, .string ⟨#[47]⟩] W fun e w' => e = .returned (.tuple #[.string (bs (Lib.cut s.data.toList [47]).1), .string (bs (Lib.cut s.data.toList [47]).2.1), .bool (Lib.cut s.data.toList [47]).2.2]) ∧ Below W.heap.size W w') := fun W h => cut_any s 47 W h hs
  have hU : Hid (partU f s.data.toList = match stepU (Lib.cut s.data.toList [47]) with
      | none => none
      | some step => if (Lib.cut s.data.toList [47]).1 = star then some (bitsN 0 (low f) (high f) step) else match rangeU f (Lib.cut s.data.toList [47]).1 (Lib.cut s.data.toList [47]).2.2 with
        | some (a, b) => some (bitsN 0 a b step)
        | none => none) := rfl
  obtain ⟨x, y, t, hc⟩ : ∃ x y t, Lib.cut s.data.toList [47] = (x, y, t) := ⟨_, _, _, rfl⟩
  have hlen := cut_len 47 _ x y t hc
  have hx : (bs x).size ≤ 1000 := by rw [bs_size]; have : s.data.toList.length = s.size := by simp
                                     omega
  have hy : (bs y).size ≤ 1000 := by rw [bs_size]; have : s.data.toList.length = s.size := by simp
                                     omega
  rw [hc] at Cc hU
  simp only [] at Cc hU
  clear hc hlen
  have Cr : Hid (∀ (q : Bool) W, Tab W → NamesAt W m f → Calls Tryz.prog 209 #[fieldV f m, .string (bs x), .bool q] W fun e w' => RangeSaid f x q e ∧ Below W.heap.size W w') := fun q W h1 h2 => parseRange_any f m (bs x) q W hf hx h1 h2
  have Cn := Lib.hid (fun W => parseNumber_any (bs y) W hy)
  rw [bs_toList] at Cn
  unfold fieldV at Cr ⊢
  generalize low f = lo at *
  generalize high f = hi at *
  clear tb hN
  go_enter Tryz.func187, Tryz.ntmps187
  go_wp2_with fail
  refine (Cc.out _ hR.out.tab).mono ?_
  rintro e w3 ⟨rfl, k3⟩
  replace hR := Lib.hid (hR.out.step k3)
  clear k3 Cc
  obtain ⟨q0, q1, q2, -, -, -, -⟩ := hR.out
  cases t with
  | false =>
    replace hU := Lib.hid (show partU f s.data.toList = if x = star then some (bitsN 0 lo hi 1) else match rangeU f x false with
        | some (a, b) => some (bitsN 0 a b 1)
        | none => none from hU.out)
    by_cases hst : x = star
    · have es : ((bs x).toList == [42]) = true := by have := is_star x; simp only [show (⟨#[42]⟩ : ByteArray).toList = [42] by simp [ByteArray.toList_eq]] at this; rw [this]; simpa using hst
      have hU2 : Hid (partU f s.data.toList = some (bitsN 0 lo hi 1)) := by
        have := hU.out
        rw [if_pos hst] at this
        exact this
      clear hU hst
      have ce := Lib.hid (fun W => every_any lo hi 1 W (by omega) (by omega) (by omega) (by omega))
      simp only [spanV] at ce
      generalize bitsN 0 lo hi 1 = res at *
      go_wp2_with fail
      refine (ce.out _).mono ?_
      rintro e w5 ⟨rfl, k5⟩
      replace k5 := Lib.hid k5
      go_wp2_with fail
      go_ret2
      exact ⟨by rw [hU2.out]; rfl, hR.out.below.trans (k5.out.mono hR.out.less)⟩
    · have es : ((bs x).toList == [42]) = false := by have := is_star x; simp only [show (⟨#[42]⟩ : ByteArray).toList = [42] by simp [ByteArray.toList_eq]] at this; rw [this]; simpa using hst
      have hU2 : Hid (partU f s.data.toList = match rangeU f x false with | some (a, b) => some (bitsN 0 a b 1) | none => none) := by
        have := hU.out
        rw [if_neg hst] at this
        exact this
      clear hU hst
      go_wp2_with fail
      refine (Cr.out false _ hR.out.tab hR.out.names).mono ?_
      rintro e w5 ⟨⟨a, b, ha, hb, hab, rfl⟩, k5⟩
      clear q0 q1 q2
      have b5 := Lib.hid (hR.out.below.trans (k5.mono hR.out.less))
      clear k5 hR es
      replace hab := Lib.hid hab
      generalize hr : rangeU f x false = r at *
      cases r with
      | none =>
        clear hr
        simp only [spanV, Option.isSome_none]
        go_wp2_with fail
        go_ret2
        exact ⟨by rw [hU2.out]; rfl, b5.out.alloc b5.out.size _⟩
      | some pq =>
        obtain ⟨p, q⟩ := pq
        obtain ⟨rfl, rfl⟩ := hab.out p q rfl
        obtain ⟨g1, g2⟩ := range_le hf hr
        clear hab hr
        simp only [spanV, Option.isSome_some]
        have ce := Lib.hid (fun W => every_any a b 1 W (by omega) (by omega) (by omega) (by omega))
        simp only [spanV] at ce
        replace hU2 := Lib.hid (show partU f s.data.toList = some (bitsN 0 a b 1) from hU2.out)
        generalize bitsN 0 a b 1 = res at *
        go_wp2_with fail
        refine (ce.out _).mono ?_
        rintro e w6 ⟨rfl, k6⟩
        replace k6 := Lib.hid k6
        go_wp2_with fail
        go_ret2
        refine ⟨by rw [hU2.out]; rfl, (b5.out.alloc b5.out.size _).trans (k6.out.mono ?_)⟩
        have := b5.out.size
        simp
        omega
  | true =>
    go_wp2_with fail
    refine (Cn.out _).mono ?_
    rintro e w4 ⟨rfl, rfl⟩
    clear Cn
    cases hn : number y with
    | none =>
      have hU2 : Hid (partU f s.data.toList = none) := by
        have := hU.out
        simp only [stepU, if_true, hn] at this
        exact this
      clear hU hn
      simp only [answerN]
      go_wp2_with fail
      go_ret2
      exact ⟨by rw [hU2.out]; rfl, hR.out.below⟩
    | some n =>
      have hn9 := number_le hn
      by_cases h1 : 1 ≤ n
      · replace hU : Hid (partU f s.data.toList = if x = star then some (bitsN 0 lo hi n) else match rangeU f x true with
            | some (a, b) => some (bitsN 0 a b n)
            | none => none) := by
          have := hU.out
          simp only [stepU, if_true, hn, if_pos h1] at this
          exact this
        clear hn
        simp only [answerN]
        by_cases hst : x = star
        · have es : ((bs x).toList == [42]) = true := by have := is_star x; simp only [show (⟨#[42]⟩ : ByteArray).toList = [42] by simp [ByteArray.toList_eq]] at this; rw [this]; simpa using hst
          have hU2 : Hid (partU f s.data.toList = some (bitsN 0 lo hi n)) := by
            have := hU.out
            rw [if_pos hst] at this
            exact this
          clear hU hst
          have ce := Lib.hid (fun W => every_any lo hi n W (by omega) (by omega) h1 (by omega))
          simp only [spanV] at ce
          generalize bitsN 0 lo hi n = res at *
          go_wp2_with fail
          refine (ce.out _).mono ?_
          rintro e w5 ⟨rfl, k5⟩
          replace k5 := Lib.hid k5
          go_wp2_with fail
          go_ret2
          exact ⟨by rw [hU2.out]; rfl, hR.out.below.trans (k5.out.mono hR.out.less)⟩
        · have es : ((bs x).toList == [42]) = false := by have := is_star x; simp only [show (⟨#[42]⟩ : ByteArray).toList = [42] by simp [ByteArray.toList_eq]] at this; rw [this]; simpa using hst
          have hU2 : Hid (partU f s.data.toList = match rangeU f x true with | some (a, b) => some (bitsN 0 a b n) | none => none) := by
            have := hU.out
            rw [if_neg hst] at this
            exact this
          clear hU hst
          go_wp2_with fail
          refine (Cr.out true _ hR.out.tab hR.out.names).mono ?_
          rintro e w5 ⟨⟨a, b, ha, hb, hab, rfl⟩, k5⟩
          clear q0 q1 q2
          have b5 := Lib.hid (hR.out.below.trans (k5.mono hR.out.less))
          clear k5 hR es
          replace hab := Lib.hid hab
          generalize hr : rangeU f x true = r at *
          cases r with
          | none =>
            clear hr
            simp only [spanV, Option.isSome_none]
            go_wp2_with fail
            go_ret2
            exact ⟨by rw [hU2.out]; rfl, b5.out.alloc b5.out.size _⟩
          | some pq =>
            obtain ⟨p, q⟩ := pq
            obtain ⟨rfl, rfl⟩ := hab.out p q rfl
            obtain ⟨g1, g2⟩ := range_le hf hr
            clear hab hr
            simp only [spanV, Option.isSome_some]
            have ce := Lib.hid (fun W => every_any a b n W (by omega) (by omega) h1 (by omega))
            simp only [spanV] at ce
            replace hU2 := Lib.hid (show partU f s.data.toList = some (bitsN 0 a b n) from hU2.out)
            generalize bitsN 0 a b n = res at *
            go_wp2_with fail
            refine (ce.out _).mono ?_
            rintro e w6 ⟨rfl, k6⟩
            replace k6 := Lib.hid k6
            go_wp2_with fail
            go_ret2
            refine ⟨by rw [hU2.out]; rfl, (b5.out.alloc b5.out.size _).trans (k6.out.mono ?_)⟩
            have := b5.out.size
            simp
            omega
      · have hU2 : Hid (partU f s.data.toList = none) := by
          have := hU.out
          simp only [stepU, if_true, hn, if_neg h1] at this
          exact this
        clear hU hn
        simp only [answerN]
        go_wp2_with fail
        go_ret2
        exact ⟨by rw [hU2.out]; rfl, hR.out.below⟩
set_option maxRecDepth 100000 in
set_option maxHeartbeats 1000000 in
theorem fieldParse_any (f : Nat) (m : Value) (s : ByteArray) (w : World) (hf : f < 5) (hs : s.size ≤ 1000) (tb : Tab w) (hN : NamesAt w m f) :
    Calls Tryz.prog 158 #[fieldV f m, .string s] w fun e w' => e = answer (fieldU f s.data.toList) ∧ Below w.heap.size w w' := by
  have hR := Lib.hid (Fld.start w (low f) (high f) f m tb hN)
  have hsz : ∀ q ∈ split 44 s.data.toList, q.length ≤ 1000 := fun q hq => by
    have := Go.Proofs.YtoihekgmomjhpaaGreatDoor.split_len hq
    simp at this
    omega
  have Cs : Hid (∀ W, Tab W → Calls Tryz.prog 186 #[.string s, .string ⟨#[44]⟩] W fun e w' => (∃ v, e = .returned v ∧ Strs w' v (split 44 s.data.toList)) ∧ Below W.heap.size W w') := fun W h => split2_any s 44 W h hs
  have hd : Hid (partsU f (split 44 s.data.toList) 0 = fieldU f s.data.toList) := rfl
  have hln : (split 44 s.data.toList).length ≤ 1001 := by
    have := split_count 44 s.data.toList
    simp at this
    omega
  have Cp : Hid (∀ (q : Bytes) W, q.length ≤ 1000 → Tab W → NamesAt W m f → Calls Tryz.prog 187 #[fieldV f m, .string (bs q)] W fun e w' => e = answer (partU f q) ∧ Below W.heap.size W w') := fun q W h1 h2 h3 => parsePart_any f m (bs q) W hf (by rw [bs_size]; exact h1) h2 h3
  unfold fieldV at Cp ⊢
  generalize low f = lo at *
  generalize high f = hi at *
  generalize fieldU f s.data.toList = res at *
  generalize split 44 s.data.toList = l at *
  clear tb hN
  go_enter Tryz.func158, Tryz.ntmps158
  go_wp2_with fail
  refine (Cs.out _ hR.out.tab).mono ?_
  rintro e w1 ⟨⟨v, rfl, b, cap, rfl, hc⟩, k1⟩
  replace hR := Lib.hid (hR.out.step k1)
  clear k1 Cs
  replace hc := Lib.hid hc
  replace hsz := Lib.hid hsz
  go_wp2_with fail
  go_loopw [6, 14] (fun v i wr => ∃ k t : Nat, k ≤ l.length ∧ v = .int .u64 t ∧ i = .int .i64 k ∧ t < 18446744073709551616 ∧ Hid (partsU f (l.drop k) t = res) ∧ Hid (∀ i (h : i < l.length), wr.cell? ⟨b, i, none⟩ = some (.string (bs l[i]))) ∧ Hid (Fld w wr lo hi m f)) (fun _ i _ => l.length - (intOf i).toNat)
  case atStart => exact ⟨0, 0, by omega, rfl, rfl, by omega, hd, hc, hR⟩
  case round =>
    obtain ⟨k, t, hk, rfl, rfl, ht64, hp, hcell, hF⟩ := hrel
    clear hd hc hR
    by_cases hlt : k < l.length
    · have hck := hcell.out k hlt
      have hbl := World.block_lt_of_cell? wr _ hck
      have cp := Lib.hid (Cp.out l[k] wr (hsz.out _ (List.getElem_mem hlt)) hF.out.tab hF.out.names)
      have hdr : Hid (partsU f (l.drop k) t = match partU f l[k] with
        | some n => partsU f (l.drop (k + 1)) (t ||| n)
        | none => none) := by rw [List.drop_eq_getElem_cons hlt]; exact rfl
      have hpl : Hid (∀ n, partU f l[k] = some n → n < 18446744073709551616) := fun n h => Crn.part_lt hf h
      generalize bs l[k] = X at *
      generalize partU f l[k] = q at *
      obtain ⟨q0, q1, q2, -, -, -, -⟩ := hF.out
      go_wp2_with fail
      refine cp.out.mono ?_
      rintro e w2 ⟨rfl, k2⟩
      have hF2 := Lib.hid (hF.out.step k2)
      have hcell2 : Hid (∀ i (h : i < l.length), w2.cell? ⟨b, i, none⟩ = some (.string (bs l[i]))) := fun i h => (k2.cell (p := ⟨b, i, none⟩) hbl).trans (hcell.out i h)
      clear k2 cp hck hbl q0 q1 q2
      cases q with
      | none =>
        have hres : Hid (res = none) := hp.out.symm.trans hdr.out
        simp only [answer, Option.getD_none, Option.isSome_none]
        go_wp2_with fail
        go_ret2
        exact ⟨by rw [hres.out]; rfl, hF2.out.below⟩
      | some n =>
        have hn := hpl.out n rfl
        have hnext : Hid (partsU f (l.drop (k + 1)) (t ||| n) = res) := hdr.out.symm.trans hp.out
        simp only [answer, Option.getD_some, Option.isSome_some]
        clear hpl
        go_wp2_with fail
        exact ⟨⟨k + 1, t ||| n, by omega, by rw [u64_or_nat t n ht64 hn], by go_num, Nat.or_lt_two_pow (n := 64) ht64 hn, hnext, hcell2, hF2⟩, by simp [intOf]; omega⟩
    · have he : Hid (res = some t) := by
        rw [← hp.out, List.drop_eq_nil_of_le (by omega)]
        exact rfl
      go_wp2_with fail
      go_ret2
      exact ⟨by rw [he.out]; rfl, hF.out.below⟩
end Go.Proofs.YtoihekgmomjhpaaGreatDoor

/-
  The program's fields (layer 4): the places of each field, and the maps of names.
-/
set_option linter.unusedVariables false
namespace Go.Proofs.YtoihekgmomjhpaaGreatDoor
open Go.RowKit Crn
def fieldsV (m3 m4 : Value) : Value := .agg #[.int .i64 0, .int .i64 59, .map none, .int .i64 0, .int .i64 23, .map none, .int .i64 1, .int .i64 31, .map none, .int .i64 1, .int .i64 12, m3, .int .i64 0, .int .i64 7, m4]
theorem months_chain (W : World) (b : Nat) (h : NameMap W b []) : ∃ x1 x2 x3 x4 x5 x6 x7 x8 x9 x10 x11 x12 : World,
    (Instr.mapUpdate 241 (.map (some b)) (.string ⟨#[106, 97, 110]⟩) (.int .i64 1)).run Tryz.prog W = .ok () x1 ∧
    (Instr.mapUpdate 241 (.map (some b)) (.string ⟨#[102, 101, 98]⟩) (.int .i64 2)).run Tryz.prog x1 = .ok () x2 ∧
    (Instr.mapUpdate 241 (.map (some b)) (.string ⟨#[109, 97, 114]⟩) (.int .i64 3)).run Tryz.prog x2 = .ok () x3 ∧
    (Instr.mapUpdate 241 (.map (some b)) (.string ⟨#[97, 112, 114]⟩) (.int .i64 4)).run Tryz.prog x3 = .ok () x4 ∧
    (Instr.mapUpdate 241 (.map (some b)) (.string ⟨#[109, 97, 121]⟩) (.int .i64 5)).run Tryz.prog x4 = .ok () x5 ∧
    (Instr.mapUpdate 241 (.map (some b)) (.string ⟨#[106, 117, 110]⟩) (.int .i64 6)).run Tryz.prog x5 = .ok () x6 ∧
    (Instr.mapUpdate 241 (.map (some b)) (.string ⟨#[106, 117, 108]⟩) (.int .i64 7)).run Tryz.prog x6 = .ok () x7 ∧
    (Instr.mapUpdate 241 (.map (some b)) (.string ⟨#[97, 117, 103]⟩) (.int .i64 8)).run Tryz.prog x7 = .ok () x8 ∧
    (Instr.mapUpdate 241 (.map (some b)) (.string ⟨#[115, 101, 112]⟩) (.int .i64 9)).run Tryz.prog x8 = .ok () x9 ∧
    (Instr.mapUpdate 241 (.map (some b)) (.string ⟨#[111, 99, 116]⟩) (.int .i64 10)).run Tryz.prog x9 = .ok () x10 ∧
    (Instr.mapUpdate 241 (.map (some b)) (.string ⟨#[110, 111, 118]⟩) (.int .i64 11)).run Tryz.prog x10 = .ok () x11 ∧
    (Instr.mapUpdate 241 (.map (some b)) (.string ⟨#[100, 101, 99]⟩) (.int .i64 12)).run Tryz.prog x11 = .ok () x12 ∧
    NameMap x12 b (nameRow (low 3) (names 3)) ∧ Below b W x12 ∧ x12.heap.size = W.heap.size := by
  obtain ⟨x1, r1, n1, b1, s1⟩ := insert_run h (by decide +kernel) ⟨#[106, 97, 110]⟩ (by decide) (by decide +kernel) 1 rfl
  obtain ⟨x2, r2, n2, b2, s2⟩ := insert_run n1 (by decide +kernel) ⟨#[102, 101, 98]⟩ (by decide) (by decide +kernel) 2 rfl
  obtain ⟨x3, r3, n3, b3, s3⟩ := insert_run n2 (by decide +kernel) ⟨#[109, 97, 114]⟩ (by decide) (by decide +kernel) 3 rfl
  obtain ⟨x4, r4, n4, b4, s4⟩ := insert_run n3 (by decide +kernel) ⟨#[97, 112, 114]⟩ (by decide) (by decide +kernel) 4 rfl
  obtain ⟨x5, r5, n5, b5, s5⟩ := insert_run n4 (by decide +kernel) ⟨#[109, 97, 121]⟩ (by decide) (by decide +kernel) 5 rfl
  obtain ⟨x6, r6, n6, b6, s6⟩ := insert_run n5 (by decide +kernel) ⟨#[106, 117, 110]⟩ (by decide) (by decide +kernel) 6 rfl
  obtain ⟨x7, r7, n7, b7, s7⟩ := insert_run n6 (by decide +kernel) ⟨#[106, 117, 108]⟩ (by decide) (by decide +kernel) 7 rfl
  obtain ⟨x8, r8, n8, b8, s8⟩ := insert_run n7 (by decide +kernel) ⟨#[97, 117, 103]⟩ (by decide) (by decide +kernel) 8 rfl
  obtain ⟨x9, r9, n9, b9, s9⟩ := insert_run n8 (by decide +kernel) ⟨#[115, 101, 112]⟩ (by decide) (by decide +kernel) 9 rfl
  obtain ⟨x10, r10, n10, b10, s10⟩ := insert_run n9 (by decide +kernel) ⟨#[111, 99, 116]⟩ (by decide) (by decide +kernel) 10 rfl
  obtain ⟨x11, r11, n11, b11, s11⟩ := insert_run n10 (by decide +kernel) ⟨#[110, 111, 118]⟩ (by decide) (by decide +kernel) 11 rfl
  obtain ⟨x12, r12, n12, b12, s12⟩ := insert_run n11 (by decide +kernel) ⟨#[100, 101, 99]⟩ (by decide) (by decide +kernel) 12 rfl
  exact ⟨x1, x2, x3, x4, x5, x6, x7, x8, x9, x10, x11, x12, r1, r2, r3, r4, r5, r6, r7, r8, r9, r10, r11, r12, n12, (((((((((((b1).trans b2).trans b3).trans b4).trans b5).trans b6).trans b7).trans b8).trans b9).trans b10).trans b11).trans b12, by omega⟩
theorem days_chain (W : World) (b : Nat) (h : NameMap W b []) : ∃ x1 x2 x3 x4 x5 x6 x7 : World,
    (Instr.mapUpdate 241 (.map (some b)) (.string ⟨#[115, 117, 110]⟩) (.int .i64 0)).run Tryz.prog W = .ok () x1 ∧
    (Instr.mapUpdate 241 (.map (some b)) (.string ⟨#[109, 111, 110]⟩) (.int .i64 1)).run Tryz.prog x1 = .ok () x2 ∧
    (Instr.mapUpdate 241 (.map (some b)) (.string ⟨#[116, 117, 101]⟩) (.int .i64 2)).run Tryz.prog x2 = .ok () x3 ∧
    (Instr.mapUpdate 241 (.map (some b)) (.string ⟨#[119, 101, 100]⟩) (.int .i64 3)).run Tryz.prog x3 = .ok () x4 ∧
    (Instr.mapUpdate 241 (.map (some b)) (.string ⟨#[116, 104, 117]⟩) (.int .i64 4)).run Tryz.prog x4 = .ok () x5 ∧
    (Instr.mapUpdate 241 (.map (some b)) (.string ⟨#[102, 114, 105]⟩) (.int .i64 5)).run Tryz.prog x5 = .ok () x6 ∧
    (Instr.mapUpdate 241 (.map (some b)) (.string ⟨#[115, 97, 116]⟩) (.int .i64 6)).run Tryz.prog x6 = .ok () x7 ∧
    NameMap x7 b (nameRow (low 4) (names 4)) ∧ Below b W x7 ∧ x7.heap.size = W.heap.size := by
  obtain ⟨x1, r1, n1, b1, s1⟩ := insert_run h (by decide +kernel) ⟨#[115, 117, 110]⟩ (by decide) (by decide +kernel) 0 rfl
  obtain ⟨x2, r2, n2, b2, s2⟩ := insert_run n1 (by decide +kernel) ⟨#[109, 111, 110]⟩ (by decide) (by decide +kernel) 1 rfl
  obtain ⟨x3, r3, n3, b3, s3⟩ := insert_run n2 (by decide +kernel) ⟨#[116, 117, 101]⟩ (by decide) (by decide +kernel) 2 rfl
  obtain ⟨x4, r4, n4, b4, s4⟩ := insert_run n3 (by decide +kernel) ⟨#[119, 101, 100]⟩ (by decide) (by decide +kernel) 3 rfl
  obtain ⟨x5, r5, n5, b5, s5⟩ := insert_run n4 (by decide +kernel) ⟨#[116, 104, 117]⟩ (by decide) (by decide +kernel) 4 rfl
  obtain ⟨x6, r6, n6, b6, s6⟩ := insert_run n5 (by decide +kernel) ⟨#[102, 114, 105]⟩ (by decide) (by decide +kernel) 5 rfl
  obtain ⟨x7, r7, n7, b7, s7⟩ := insert_run n6 (by decide +kernel) ⟨#[115, 97, 116]⟩ (by decide) (by decide +kernel) 6 rfl
  exact ⟨x1, x2, x3, x4, x5, x6, x7, r1, r2, r3, r4, r5, r6, r7, n7, ((((((b1).trans b2).trans b3).trans b4).trans b5).trans b6).trans b7, by omega⟩
theorem makeMap_run (W : World) : (Instr.makeMap 241 none).run Tryz.prog W = .ok (.map (some W.heap.size)) (W.alloc (.map #[] 0)) := by
  simp [Instr.makeMap, Result.andThen, go_sem]
set_option maxRecDepth 100000 in
set_option maxHeartbeats 1000000 in
theorem fields_any (w : World) (t : Tab w) :
    Calls Tryz.prog 157 #[] w fun e w' => (∃ m3 m4, e = .returned (fieldsV m3 m4) ∧ NamesAt w' m3 3 ∧ NamesAt w' m4 4) ∧ Below w.heap.size w w' := by
  have hs : 1 < w.heap.size := by have := t.size; omega
  have c0 : w.cell? ⟨1, 0, none⟩ = some (.int .i64 0) := (t.spans 0 (by omega)).1
  have c1 : w.cell? ⟨1, 1, none⟩ = some (.int .i64 59) := (t.spans 0 (by omega)).2
  have c2 : w.cell? ⟨1, 2, none⟩ = some (.int .i64 0) := (t.spans 1 (by omega)).1
  have c3 : w.cell? ⟨1, 3, none⟩ = some (.int .i64 23) := (t.spans 1 (by omega)).2
  have c4 : w.cell? ⟨1, 4, none⟩ = some (.int .i64 1) := (t.spans 2 (by omega)).1
  have c5 : w.cell? ⟨1, 5, none⟩ = some (.int .i64 31) := (t.spans 2 (by omega)).2
  have c6 : w.cell? ⟨1, 6, none⟩ = some (.int .i64 1) := (t.spans 3 (by omega)).1
  have c7 : w.cell? ⟨1, 7, none⟩ = some (.int .i64 12) := (t.spans 3 (by omega)).2
  have z0 : (w.alloc (.cells #[.int .i64 0, .int .i64 0, .map none, .int .i64 0, .int .i64 0, .map none, .int .i64 0, .int .i64 0, .map none, .int .i64 0, .int .i64 0, .map none, .int .i64 0, .int .i64 0, .map none] 244)).heap.size = w.heap.size + 1 := by simp
  have z1 : ((w.alloc (.cells #[.int .i64 0, .int .i64 0, .map none, .int .i64 0, .int .i64 0, .map none, .int .i64 0, .int .i64 0, .map none, .int .i64 0, .int .i64 0, .map none, .int .i64 0, .int .i64 0, .map none] 244)).alloc (.map #[] 0)).heap.size = w.heap.size + 2 := by simp
  have b0 : Below w.heap.size w ((w.alloc (.cells #[.int .i64 0, .int .i64 0, .map none, .int .i64 0, .int .i64 0, .map none, .int .i64 0, .int .i64 0, .map none, .int .i64 0, .int .i64 0, .map none, .int .i64 0, .int .i64 0, .map none] 244)).alloc (.map #[] 0)) := ((Below.refl w.heap.size w).alloc (Nat.le_refl _) _).alloc (by simp) _
  have h0 : ((w.alloc (.cells #[.int .i64 0, .int .i64 0, .map none, .int .i64 0, .int .i64 0, .map none, .int .i64 0, .int .i64 0, .map none, .int .i64 0, .int .i64 0, .map none, .int .i64 0, .int .i64 0, .map none] 244)).alloc (.map #[] 0)).heap[w.heap.size]? = some (.cells #[.int .i64 0, .int .i64 0, .map none, .int .i64 0, .int .i64 0, .map none, .int .i64 0, .int .i64 0, .map none, .int .i64 0, .int .i64 0, .map none, .int .i64 0, .int .i64 0, .map none] 244) := heap_alloc2_old w _ _
  have mk := makeMap_run
  obtain ⟨x1, x2, x3, x4, x5, x6, x7, x8, x9, x10, x11, x12, r1, r2, r3, r4, r5, r6, r7, r8, r9, r10, r11, r12, n3, k3, s3⟩ := months_chain ((w.alloc (.cells #[.int .i64 0, .int .i64 0, .map none, .int .i64 0, .int .i64 0, .map none, .int .i64 0, .int .i64 0, .map none, .int .i64 0, .int .i64 0, .map none, .int .i64 0, .int .i64 0, .map none] 244)).alloc (.map #[] 0)) (w.heap.size + 1) (by
    have := NameMap.made (w.alloc (.cells #[.int .i64 0, .int .i64 0, .map none, .int .i64 0, .int .i64 0, .map none, .int .i64 0, .int .i64 0, .map none, .int .i64 0, .int .i64 0, .map none, .int .i64 0, .int .i64 0, .map none] 244))
    rw [z0] at this
    exact this)
  have b12 : Below w.heap.size w x12 := b0.trans (k3.mono (by omega))
  have h12 : x12.heap[w.heap.size]? = some (.cells #[.int .i64 0, .int .i64 0, .map none, .int .i64 0, .int .i64 0, .map none, .int .i64 0, .int .i64 0, .map none, .int .i64 0, .int .i64 0, .map none, .int .i64 0, .int .i64 0, .map none] 244) := (k3.block w.heap.size (by omega)).trans h0
  have b13 : Below x12.heap.size x12 (x12.alloc (.map #[] 0)) := (Below.refl _ _).alloc (Nat.le_refl _) _
  obtain ⟨y1, y2, y3, y4, y5, y6, y7, u1, u2, u3, u4, u5, u6, u7, n4, k4, s4⟩ := days_chain (x12.alloc (.map #[] 0)) x12.heap.size (NameMap.made x12)
  have l12 : w.heap.size + 2 ≤ x12.heap.size := by omega
  have c13 : Below x12.heap.size x12 y7 := b13.trans k4
  have b20 : Below w.heap.size w y7 := b12.trans (c13.mono (by omega))
  have h20 : y7.heap[w.heap.size]? = some (.cells #[.int .i64 0, .int .i64 0, .map none, .int .i64 0, .int .i64 0, .map none, .int .i64 0, .int .i64 0, .map none, .int .i64 0, .int .i64 0, .map none, .int .i64 0, .int .i64 0, .map none] 244) := (c13.block w.heap.size (by omega)).trans h12
  have e3 : NameMap y7 (w.heap.size + 1) (nameRow (low 3) (names 3)) := n3.below c13 (by omega)
  replace n4 := Lib.hid n4
  replace e3 := Lib.hid e3
  replace b20 := Lib.hid b20
  replace h20 := Lib.hid h20
  replace l12 := Lib.hid l12
  clear n3 k3 s3 b0 h0 b12 h12 b13 k4 s4 c13 z0 z1 t
  have q0 : y7.cell? ⟨w.heap.size, 0, none⟩ = some (.int .i64 0) := cell_of_row y7 w.heap.size 0 _ 244 (0, 0) h20.out
  have f0 : y7.frozen? ⟨w.heap.size, 0, none⟩ = false := frozen_of_row y7 w.heap.size 0 _ 244 h20.out
  have q1 : y7.cell? ⟨w.heap.size, 1, none⟩ = some (.int .i64 0) := cell_of_row y7 w.heap.size 1 _ 244 (0, 0) h20.out
  have f1 : y7.frozen? ⟨w.heap.size, 1, none⟩ = false := frozen_of_row y7 w.heap.size 1 _ 244 h20.out
  have q2 : y7.cell? ⟨w.heap.size, 2, none⟩ = some (.map none) := cell_of_row y7 w.heap.size 2 _ 244 (0, 0) h20.out
  have f2 : y7.frozen? ⟨w.heap.size, 2, none⟩ = false := frozen_of_row y7 w.heap.size 2 _ 244 h20.out
  have q3 : y7.cell? ⟨w.heap.size, 3, none⟩ = some (.int .i64 0) := cell_of_row y7 w.heap.size 3 _ 244 (0, 0) h20.out
  have f3 : y7.frozen? ⟨w.heap.size, 3, none⟩ = false := frozen_of_row y7 w.heap.size 3 _ 244 h20.out
  have q4 : y7.cell? ⟨w.heap.size, 4, none⟩ = some (.int .i64 0) := cell_of_row y7 w.heap.size 4 _ 244 (0, 0) h20.out
  have f4 : y7.frozen? ⟨w.heap.size, 4, none⟩ = false := frozen_of_row y7 w.heap.size 4 _ 244 h20.out
  have q5 : y7.cell? ⟨w.heap.size, 5, none⟩ = some (.map none) := cell_of_row y7 w.heap.size 5 _ 244 (0, 0) h20.out
  have f5 : y7.frozen? ⟨w.heap.size, 5, none⟩ = false := frozen_of_row y7 w.heap.size 5 _ 244 h20.out
  have q6 : y7.cell? ⟨w.heap.size, 6, none⟩ = some (.int .i64 0) := cell_of_row y7 w.heap.size 6 _ 244 (0, 0) h20.out
  have f6 : y7.frozen? ⟨w.heap.size, 6, none⟩ = false := frozen_of_row y7 w.heap.size 6 _ 244 h20.out
  have q7 : y7.cell? ⟨w.heap.size, 7, none⟩ = some (.int .i64 0) := cell_of_row y7 w.heap.size 7 _ 244 (0, 0) h20.out
  have f7 : y7.frozen? ⟨w.heap.size, 7, none⟩ = false := frozen_of_row y7 w.heap.size 7 _ 244 h20.out
  have q8 : y7.cell? ⟨w.heap.size, 8, none⟩ = some (.map none) := cell_of_row y7 w.heap.size 8 _ 244 (0, 0) h20.out
  have f8 : y7.frozen? ⟨w.heap.size, 8, none⟩ = false := frozen_of_row y7 w.heap.size 8 _ 244 h20.out
  have q9 : y7.cell? ⟨w.heap.size, 9, none⟩ = some (.int .i64 0) := cell_of_row y7 w.heap.size 9 _ 244 (0, 0) h20.out
  have f9 : y7.frozen? ⟨w.heap.size, 9, none⟩ = false := frozen_of_row y7 w.heap.size 9 _ 244 h20.out
  have q10 : y7.cell? ⟨w.heap.size, 10, none⟩ = some (.int .i64 0) := cell_of_row y7 w.heap.size 10 _ 244 (0, 0) h20.out
  have f10 : y7.frozen? ⟨w.heap.size, 10, none⟩ = false := frozen_of_row y7 w.heap.size 10 _ 244 h20.out
  have q11 : y7.cell? ⟨w.heap.size, 11, none⟩ = some (.map none) := cell_of_row y7 w.heap.size 11 _ 244 (0, 0) h20.out
  have f11 : y7.frozen? ⟨w.heap.size, 11, none⟩ = false := frozen_of_row y7 w.heap.size 11 _ 244 h20.out
  have q12 : y7.cell? ⟨w.heap.size, 12, none⟩ = some (.int .i64 0) := cell_of_row y7 w.heap.size 12 _ 244 (0, 0) h20.out
  have f12 : y7.frozen? ⟨w.heap.size, 12, none⟩ = false := frozen_of_row y7 w.heap.size 12 _ 244 h20.out
  have q13 : y7.cell? ⟨w.heap.size, 13, none⟩ = some (.int .i64 0) := cell_of_row y7 w.heap.size 13 _ 244 (0, 0) h20.out
  have f13 : y7.frozen? ⟨w.heap.size, 13, none⟩ = false := frozen_of_row y7 w.heap.size 13 _ 244 h20.out
  have q14 : y7.cell? ⟨w.heap.size, 14, none⟩ = some (.map none) := cell_of_row y7 w.heap.size 14 _ 244 (0, 0) h20.out
  have f14 : y7.frozen? ⟨w.heap.size, 14, none⟩ = false := frozen_of_row y7 w.heap.size 14 _ 244 h20.out
  go_enter Tryz.func157, Tryz.ntmps157
  go_wp2_with fail
  have l := l12.out
  refine bodyPost_ret (v := fieldsV (.map (some (w.heap.size + 1))) (.map (some x12.heap.size))) ?_ rfl ?_
  · exact results_cell_row rfl _ _ w.heap.size 244 _ (0, 0) _ rfl (heap_setCell_same _ _ 14 _ _ _ (heap_setCell_same _ _ 13 _ _ _ (heap_setCell_same _ _ 12 _ _ _ (heap_setCell_same _ _ 11 _ _ _ (heap_setCell_same _ _ 10 _ _ _ (heap_setCell_same _ _ 9 _ _ _ (heap_setCell_same _ _ 8 _ _ _ (heap_setCell_same _ _ 7 _ _ _ (heap_setCell_same _ _ 6 _ _ _ (heap_setCell_same _ _ 5 _ _ _ (heap_setCell_same _ _ 4 _ _ _ (heap_setCell_same _ _ 3 _ _ _ (heap_setCell_same _ _ 2 _ _ _ (heap_setCell_same _ _ 1 _ _ _ (heap_setCell_same _ _ 0 _ _ _ h20.out))))))))))))))) Tryz.underlying244 rfl (by kernel_rfl)
  · refine ⟨⟨_, _, rfl, Or.inr ⟨_, rfl, ?_⟩, Or.inr ⟨_, rfl, ?_⟩⟩, (((((((((((((((b20.out).setCell (Nat.le_refl _) _).setCell (Nat.le_refl _) _).setCell (Nat.le_refl _) _).setCell (Nat.le_refl _) _).setCell (Nat.le_refl _) _).setCell (Nat.le_refl _) _).setCell (Nat.le_refl _) _).setCell (Nat.le_refl _) _).setCell (Nat.le_refl _) _).setCell (Nat.le_refl _) _).setCell (Nat.le_refl _) _).setCell (Nat.le_refl _) _).setCell (Nat.le_refl _) _).setCell (Nat.le_refl _) _).setCell (Nat.le_refl _) _⟩
    · obtain ⟨es, clock, g1, g2⟩ := e3.out
      exact ⟨es, clock, (heap_setCell_other _ _ _ _ (by show _ ≠ w.heap.size; omega)).trans ((heap_setCell_other _ _ _ _ (by show _ ≠ w.heap.size; omega)).trans ((heap_setCell_other _ _ _ _ (by show _ ≠ w.heap.size; omega)).trans ((heap_setCell_other _ _ _ _ (by show _ ≠ w.heap.size; omega)).trans ((heap_setCell_other _ _ _ _ (by show _ ≠ w.heap.size; omega)).trans ((heap_setCell_other _ _ _ _ (by show _ ≠ w.heap.size; omega)).trans ((heap_setCell_other _ _ _ _ (by show _ ≠ w.heap.size; omega)).trans ((heap_setCell_other _ _ _ _ (by show _ ≠ w.heap.size; omega)).trans ((heap_setCell_other _ _ _ _ (by show _ ≠ w.heap.size; omega)).trans ((heap_setCell_other _ _ _ _ (by show _ ≠ w.heap.size; omega)).trans ((heap_setCell_other _ _ _ _ (by show _ ≠ w.heap.size; omega)).trans ((heap_setCell_other _ _ _ _ (by show _ ≠ w.heap.size; omega)).trans ((heap_setCell_other _ _ _ _ (by show _ ≠ w.heap.size; omega)).trans ((heap_setCell_other _ _ _ _ (by show _ ≠ w.heap.size; omega)).trans ((heap_setCell_other _ _ _ _ (by show _ ≠ w.heap.size; omega)).trans (g1))))))))))))))), g2⟩
    · obtain ⟨es, clock, g1, g2⟩ := n4.out
      exact ⟨es, clock, (heap_setCell_other _ _ _ _ (by show _ ≠ w.heap.size; omega)).trans ((heap_setCell_other _ _ _ _ (by show _ ≠ w.heap.size; omega)).trans ((heap_setCell_other _ _ _ _ (by show _ ≠ w.heap.size; omega)).trans ((heap_setCell_other _ _ _ _ (by show _ ≠ w.heap.size; omega)).trans ((heap_setCell_other _ _ _ _ (by show _ ≠ w.heap.size; omega)).trans ((heap_setCell_other _ _ _ _ (by show _ ≠ w.heap.size; omega)).trans ((heap_setCell_other _ _ _ _ (by show _ ≠ w.heap.size; omega)).trans ((heap_setCell_other _ _ _ _ (by show _ ≠ w.heap.size; omega)).trans ((heap_setCell_other _ _ _ _ (by show _ ≠ w.heap.size; omega)).trans ((heap_setCell_other _ _ _ _ (by show _ ≠ w.heap.size; omega)).trans ((heap_setCell_other _ _ _ _ (by show _ ≠ w.heap.size; omega)).trans ((heap_setCell_other _ _ _ _ (by show _ ≠ w.heap.size; omega)).trans ((heap_setCell_other _ _ _ _ (by show _ ≠ w.heap.size; omega)).trans ((heap_setCell_other _ _ _ _ (by show _ ≠ w.heap.size; omega)).trans ((heap_setCell_other _ _ _ _ (by show _ ≠ w.heap.size; omega)).trans (g1))))))))))))))), g2⟩
end Go.Proofs.YtoihekgmomjhpaaGreatDoor

/-
  The program's week and isBlank (layer 4).
-/
set_option linter.unusedVariables false
namespace Go.Proofs.YtoihekgmomjhpaaGreatDoor
open Go.RowKit Crn
theorem every_week : bitsN 0 0 6 1 = 127 := by decide +kernel
theorem wk_bits_eq (set : Nat) (hs : set < 18446744073709551616) : bits .and .u64 (bits .or .u64 (set : Int) ((set : Int) / 128)) 127 = ((wk set : Nat) : Int) := by
  have e : ((set : Int) / (128 : Int)) = ((set >>> 7 : Nat) : Int) := by
    rw [Nat.shiftRight_eq_div_pow]
    omega
  have hle : set >>> 7 < 18446744073709551616 := by rw [Nat.shiftRight_eq_div_pow]; omega
  rw [e, u64_or_nat _ _ hs hle]
  exact u64_and_nat _ 127 (Nat.or_lt_two_pow (n := 64) hs hle) (by omega)
set_option maxRecDepth 100000 in
set_option maxHeartbeats 400000 in
theorem week_any (set : Nat) (w : World) (t : Tab w) (hs : set < 18446744073709551616) :
    Calls Tryz.prog 159 #[.int .u64 set] w fun e w' => e = .returned (.int .u64 (wk set : Nat)) ∧ Below w.heap.size w w' := by
  have c8 : w.cell? ⟨1, 8, none⟩ = some (.int .i64 0) := (t.spans 4 (by omega)).1
  have c9 : w.cell? ⟨1, 9, none⟩ = some (.int .i64 6) := (t.spans 4 (by omega)).2
  have ce := Lib.hid (fun W => every_any 0 6 1 W (by omega) (by omega) (by omega) (by omega))
  simp only [spanV, every_week] at ce
  go_enter Tryz.func159, Tryz.ntmps159
  go_wp2_with fail
  refine (ce.out _).mono ?_
  rintro e w5 ⟨rfl, k5⟩
  replace k5 := Lib.hid k5
  go_wp2_with fail
  go_ret
  exact ⟨ret_int (wk_bits_eq set hs), k5.out⟩
theorem isBlank_gives (w : World) : PredAt Tryz.prog 121 #[] encR blankR w := fun W r _ => by
  unfold FnGives
  by_cases h1 : r = 32
  · subst h1
    go_enter Tryz.func121, Tryz.ntmps121
    go_wp2
    go_ret
    exact ⟨rfl, 0, rfl⟩
  · have e1 : ((r : Int) == 32) = false := by simp; omega
    by_cases h2 : r = 9
    · subst h2
      go_enter Tryz.func121, Tryz.ntmps121
      go_wp2
      go_ret
      exact ⟨rfl, 0, rfl⟩
    · have e2 : ((r : Int) == 9) = false := by simp; omega
      have hb : Hid (blankR r = false) := by simp [Hid, blankR, h1, h2]
      clear h1 h2
      go_enter Tryz.func121, Tryz.ntmps121
      go_wp2
      go_ret
      exact ⟨by rw [hb.out]; rfl, 0, rfl⟩
end Go.Proofs.YtoihekgmomjhpaaGreatDoor

/-
  The document's Parse (layer 4).
-/
namespace Go.Proofs.YtoihekgmomjhpaaGreatDoor
open Go.RowKit Crn
/-- What Parse answers. -/
def answerP (r : Option SpecN) : Ending := .returned (.tuple #[specV (r.getD zero), .bool r.isSome])
/-- The answer's block and that of 'bad', as they were laid. -/
structure Laid (w wr : World) : Prop where
  r : wr.heap[w.heap.size]? = some (.cells #[.int .u64 0, .int .u64 0, .int .u64 0, .int .u64 0, .int .u64 0, .bool false, .bool false, .int .i64 0] 157)
  b : wr.heap[w.heap.size + 1]? = some (.cells #[.int .u64 0, .int .u64 0, .int .u64 0, .int .u64 0, .int .u64 0, .bool false, .bool false, .int .i64 0] 157)
  size : w.heap.size + 2 ≤ wr.heap.size
  below : Below w.heap.size w wr
theorem Laid.start (w : World) : Laid w ((w.alloc (.cells #[.int .u64 0, .int .u64 0, .int .u64 0, .int .u64 0, .int .u64 0, .bool false, .bool false, .int .i64 0] 157)).alloc (.cells #[.int .u64 0, .int .u64 0, .int .u64 0, .int .u64 0, .int .u64 0, .bool false, .bool false, .int .i64 0] 157)) := by
  refine ⟨?_, ?_, by simp, ((Below.refl _ _).alloc (Nat.le_refl _) _).alloc (by simp) _⟩
  · rw [Below.heap_alloc _ _ _ (by simp)]
    exact Go.heap_alloc_new w _
  · have h := Go.heap_alloc_new (w.alloc (.cells #[.int .u64 0, .int .u64 0, .int .u64 0, .int .u64 0, .int .u64 0, .bool false, .bool false, .int .i64 0] 157)) (.cells #[.int .u64 0, .int .u64 0, .int .u64 0, .int .u64 0, .int .u64 0, .bool false, .bool false, .int .i64 0] 157)
    simpa using h
theorem Laid.step {w wr w2 : World} (h : Laid w wr) {B : Nat} (hB : w.heap.size + 2 ≤ B) (k : Below B wr w2) : Laid w w2 :=
  ⟨(k.block _ (by omega)).trans h.r, (k.block _ (by omega)).trans h.b, Nat.le_trans h.size k.size, h.below.trans (k.mono (by omega))⟩
theorem Laid.setCell {w wr : World} (h : Laid w wr) {a : Addr} (ha : w.heap.size + 2 ≤ a.block) (v : Value) : Laid w (wr.setCell a v) :=
  h.step (B := w.heap.size + 2) (Nat.le_refl _) ((Below.refl _ _).setCell ha v)
theorem Laid.facts {w wr : World} (h : Laid w wr) : wr.cell? ⟨w.heap.size + 1, 0, none⟩ = some (.int .u64 0) ∧ wr.cell? ⟨w.heap.size + 1, 1, none⟩ = some (.int .u64 0) ∧ wr.cell? ⟨w.heap.size + 1, 2, none⟩ = some (.int .u64 0) ∧ wr.cell? ⟨w.heap.size + 1, 3, none⟩ = some (.int .u64 0) ∧ wr.cell? ⟨w.heap.size + 1, 4, none⟩ = some (.int .u64 0) ∧ wr.cell? ⟨w.heap.size + 1, 5, none⟩ = some (.bool false) ∧ wr.cell? ⟨w.heap.size + 1, 6, none⟩ = some (.bool false) ∧ wr.cell? ⟨w.heap.size + 1, 7, none⟩ = some (.int .i64 0) ∧ wr.cell? ⟨w.heap.size, 0, none⟩ = some (.int .u64 0) ∧ wr.cell? ⟨w.heap.size, 1, none⟩ = some (.int .u64 0) ∧ wr.cell? ⟨w.heap.size, 2, none⟩ = some (.int .u64 0) ∧ wr.cell? ⟨w.heap.size, 3, none⟩ = some (.int .u64 0) ∧ wr.cell? ⟨w.heap.size, 4, none⟩ = some (.int .u64 0) ∧ wr.cell? ⟨w.heap.size, 5, none⟩ = some (.bool false) ∧ wr.cell? ⟨w.heap.size, 6, none⟩ = some (.bool false) ∧ wr.cell? ⟨w.heap.size, 7, none⟩ = some (.int .i64 0) ∧ wr.frozen? ⟨w.heap.size, 0, none⟩ = false ∧ wr.frozen? ⟨w.heap.size, 1, none⟩ = false ∧ wr.frozen? ⟨w.heap.size, 2, none⟩ = false ∧ wr.frozen? ⟨w.heap.size, 3, none⟩ = false ∧ wr.frozen? ⟨w.heap.size, 4, none⟩ = false ∧ wr.frozen? ⟨w.heap.size, 5, none⟩ = false ∧ wr.frozen? ⟨w.heap.size, 6, none⟩ = false ∧ wr.frozen? ⟨w.heap.size, 7, none⟩ = false := by
  refine ⟨?_, ?_, ?_, ?_, ?_, ?_, ?_, ?_, ?_, ?_, ?_, ?_, ?_, ?_, ?_, ?_, ?_, ?_, ?_, ?_, ?_, ?_, ?_, ?_⟩
  · simp [World.cell?, h.b]
  · simp [World.cell?, h.b]
  · simp [World.cell?, h.b]
  · simp [World.cell?, h.b]
  · simp [World.cell?, h.b]
  · simp [World.cell?, h.b]
  · simp [World.cell?, h.b]
  · simp [World.cell?, h.b]
  · simp [World.cell?, h.r]
  · simp [World.cell?, h.r]
  · simp [World.cell?, h.r]
  · simp [World.cell?, h.r]
  · simp [World.cell?, h.r]
  · simp [World.cell?, h.r]
  · simp [World.cell?, h.r]
  · simp [World.cell?, h.r]
  · simp [World.frozen?, h.r]
  · simp [World.frozen?, h.r]
  · simp [World.frozen?, h.r]
  · simp [World.frozen?, h.r]
  · simp [World.frozen?, h.r]
  · simp [World.frozen?, h.r]
  · simp [World.frozen?, h.r]
  · simp [World.frozen?, h.r]
theorem below_eight {w wr : World} (h : Below w.heap.size w wr) (v0 v1 v2 v3 v4 v5 v6 v7 : Value) :
    Below w.heap.size w ((((((((wr.setCell ⟨w.heap.size, 0, none⟩ v0).setCell ⟨w.heap.size, 1, none⟩ v1).setCell ⟨w.heap.size, 2, none⟩ v2).setCell ⟨w.heap.size, 3, none⟩ v3).setCell ⟨w.heap.size, 4, none⟩ v4).setCell ⟨w.heap.size, 5, none⟩ v5).setCell ⟨w.heap.size, 6, none⟩ v6).setCell ⟨w.heap.size, 7, none⟩ v7) :=
  (((((((h.setCell (Nat.le_refl _) _).setCell (Nat.le_refl _) _).setCell (Nat.le_refl _) _).setCell (Nat.le_refl _) _).setCell (Nat.le_refl _) _).setCell (Nat.le_refl _) _).setCell (Nat.le_refl _) _).setCell (Nat.le_refl _) _
theorem splitP_len {p : UInt8 → Bool} {l q : Bytes} (h : q ∈ splitP p l) : q.length ≤ l.length := by
  induction l generalizing q with
  | nil => simp [splitP] at h; subst h; simp
  | cons x l ih =>
    cases hx : p x
    · rw [splitP_no hx] at h
      cases hs : splitP p l with
      | nil => exact absurd hs (splitP_ne _ _)
      | cons y t =>
        rw [hs] at h ih
        simp only [onto, List.mem_cons] at h
        rcases h with rfl | h
        · have := ih (q := y) (by simp); simp; omega
        · have := ih (q := q) (by simp [h]); simp; omega
    · rw [splitP_yes hx] at h
      rcases List.mem_cons.1 h with rfl | h
      · simp
      · have := ih h; simp; omega
theorem words_len {s q : Bytes} (h : q ∈ words s) : q.length ≤ s.length := splitP_len (List.mem_filter.1 h).1
def tb (b : UInt8) : UInt8 := if b = 9 then 32 else b
/-- What the fields of a text say. -/
def ofWords : List Bytes → Option SpecN
  | [a, b, c, d, e] => five a b c d e 0
  | [a, b, c, d, e, z] => match aheadN z with
    | some n => five a b c d e n
    | none => none
  | _ => none
theorem parse_words {s : Bytes} (h : ¬ 256 < s.length) (pre : List Bytes) (hp : words s = pre) : parse s = ofWords pre := by
  subst hp
  unfold parse
  rw [if_neg h]
  rfl
theorem ofWords_five {pre : List Bytes} (h : pre.length = 5) : ofWords pre = five pre[0] pre[1] pre[2] pre[3] pre[4] 0 := by
  match pre, h with
  | [_, _, _, _, _], _ => rfl
theorem ofWords_six {pre : List Bytes} (h : pre.length = 6) : ofWords pre = (aheadN pre[5]).bind fun n => five pre[0] pre[1] pre[2] pre[3] pre[4] n := by
  match pre, h with
  | [a, b, c, d, e, z], _ =>
    show (match aheadN z with | some n => five a b c d e n | none => none) = _
    simp only [List.getElem_cons_succ, List.getElem_cons_zero]
    cases aheadN z <;> rfl
end Go.Proofs.YtoihekgmomjhpaaGreatDoor
