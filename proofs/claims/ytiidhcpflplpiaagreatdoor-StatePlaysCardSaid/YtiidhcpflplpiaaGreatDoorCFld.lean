/-
  The program's parsePart and the field's parse (layer 4).
-/
import Derived.Test.YtiidhcpflplpiaaGreatDoorCRange
import Derived.Test.YtiidhcpflplpiaaGreatDoorField
set_option linter.unusedVariables false
namespace Go.Proofs.YtiidhcpflplpiaaGreatDoor
open Go.RowKit Crn

/-- The field as it lies while parsePart, or parse, runs. -/
structure Fld (w wr : World) (lo hi : Nat) (m : Value) (f : Nat) : Prop where
  c0 : wr.cell? ⟨w.heap.size, 0, none⟩ = some (.int .i64 lo)
  c1 : wr.cell? ⟨w.heap.size, 1, none⟩ = some (.int .i64 hi)
  c2 : wr.cell? ⟨w.heap.size, 2, none⟩ = some m
  size : w.heap.size + 1 ≤ wr.heap.size
  below : Below w.heap.size w wr
  names : NamesAt wr m f
  tab : Tab wr
theorem Fld.less {w wr : World} {lo hi f : Nat} {m : Value} (h : Fld w wr lo hi m f) : w.heap.size ≤ wr.heap.size := Nat.le_trans (Nat.le_succ _) h.size
theorem Fld.step {w wr w' : World} {lo hi f : Nat} {m : Value} (h : Fld w wr lo hi m f) (k : Below wr.heap.size wr w') : Fld w w' lo hi m f := by
  have s0 : w.heap.size < wr.heap.size := by have := h.size; omega
  exact ⟨(k.cell (p := ⟨w.heap.size, 0, none⟩) s0).trans h.c0, (k.cell (p := ⟨w.heap.size, 1, none⟩) s0).trans h.c1, (k.cell (p := ⟨w.heap.size, 2, none⟩) s0).trans h.c2,
    Nat.le_trans h.size k.size, h.below.trans (k.mono h.less), h.names.below k (Nat.le_refl _), h.tab.below k⟩
theorem Fld.start (w : World) (lo hi f : Nat) (m : Value) (t : Tab w) (hN : NamesAt w m f) : Fld w (w.alloc (.cells #[.int .i64 lo, .int .i64 hi, m] 182)) lo hi m f := by
  have b1 : Below w.heap.size w (w.alloc (.cells #[.int .i64 lo, .int .i64 hi, m] 182)) := (Below.refl _ _).alloc (Nat.le_refl _) _
  refine ⟨?_, ?_, ?_, by simp, b1, hN.below b1 (Nat.le_refl _), t.below b1⟩
  all_goals rw [World.cell?_alloc_new]; rfl

theorem cut_len (c : UInt8) (s x y : Bytes) (t : Bool) (h : Lib.cut s [c] = (x, y, t)) : x.length ≤ s.length ∧ y.length ≤ s.length := by
  rcases first_of (c := c) (s := s) with g | ⟨a, b, rfl, g⟩
  · rw [cut_none g] at h
    cases h
    simp
  · rw [cut_at g] at h
    cases h
    simp
    omega

set_option maxRecDepth 100000 in
set_option maxHeartbeats 4000000 in
theorem parsePart_any (f : Nat) (m : Value) (s : ByteArray) (w : World) (hf : f < 5) (hs : s.size ≤ 1000) (tb : Tab w) (hN : NamesAt w m f) :
    Calls Tryz.prog 144 #[fieldV f m, .string s] w fun e w' => e = answer (partU f s.data.toList) ∧ Below w.heap.size w w' := by
  obtain ⟨l1, l2, l3⟩ := low_high f hf
  have hR := Lib.hid (Fld.start w (low f) (high f) f m tb hN)
  have Cc : Hid (∀ W, Tab W → Calls Tryz.prog 162 #[.string s, .string ⟨#[47]⟩] W fun e w' => e = .returned (.tuple #[.string (bs (Lib.cut s.data.toList [47]).1), .string (bs (Lib.cut s.data.toList [47]).2.1), .bool (Lib.cut s.data.toList [47]).2.2]) ∧ Below W.heap.size W w') := fun W h => cut_any s 47 W h hs
  have hU : Hid (partU f s.data.toList = match stepU (Lib.cut s.data.toList [47]) with
      | none => none
      | some step => if (Lib.cut s.data.toList [47]).1 = star then some (bitsN 0 (low f) (high f) step) else match rangeU f (Lib.cut s.data.toList [47]).1 (Lib.cut s.data.toList [47]).2.2 with
        | some (a, b) => some (bitsN 0 a b step)
        | none => none) := rfl
  obtain ⟨x, y, t, hc⟩ : ∃ x y t, Lib.cut s.data.toList [47] = (x, y, t) := ⟨_, _, _, rfl⟩
  have hlen := cut_len 47 _ x y t hc
  have hx : (bs x).size ≤ 1000 := by rw [bs_size]; have : s.data.toList.length = s.size := by simp
                                     omega
  have hy : (bs y).size ≤ 1000 := by rw [bs_size]; have : s.data.toList.length = s.size := by simp
                                     omega
  rw [hc] at Cc hU
  simp only [] at Cc hU
  clear hc hlen
  have Cr : Hid (∀ (q : Bool) W, Tab W → NamesAt W m f → Calls Tryz.prog 163 #[fieldV f m, .string (bs x), .bool q] W fun e w' => RangeSaid f x q e ∧ Below W.heap.size W w') := fun q W h1 h2 => parseRange_any f m (bs x) q W hf hx h1 h2
  have Cn := Lib.hid (fun W => parseNumber_any (bs y) W hy)
  rw [bs_toList] at Cn
  unfold fieldV at Cr ⊢
  generalize low f = lo at *
  generalize high f = hi at *
  clear tb hN
  go_enter Tryz.func144, Tryz.ntmps144
  go_wp2_with fail
  refine (Cc.out _ hR.out.tab).mono ?_
  rintro e w3 ⟨rfl, k3⟩
  replace hR := Lib.hid (hR.out.step k3)
  clear k3 Cc
  obtain ⟨q0, q1, q2, -, -, -, -⟩ := hR.out
  cases t with
  | false =>
    replace hU := Lib.hid (show partU f s.data.toList = if x = star then some (bitsN 0 lo hi 1) else match rangeU f x false with
        | some (a, b) => some (bitsN 0 a b 1)
        | none => none from hU.out)
    by_cases hst : x = star
    · have es : ((bs x).toList == [42]) = true := by have := is_star x; simp only [show (⟨#[42]⟩ : ByteArray).toList = [42] by simp [ByteArray.toList_eq]] at this; rw [this]; simpa using hst
      have hU2 : Hid (partU f s.data.toList = some (bitsN 0 lo hi 1)) := by
        have := hU.out
        rw [if_pos hst] at this
        exact this
      clear hU hst
      have ce := Lib.hid (fun W => every_any lo hi 1 W (by omega) (by omega) (by omega) (by omega))
      simp only [spanV] at ce
      generalize bitsN 0 lo hi 1 = res at *
      go_wp2_with fail
      refine (ce.out _).mono ?_
      rintro e w5 ⟨rfl, k5⟩
      replace k5 := Lib.hid k5
      go_wp2_with fail
      go_ret2
      exact ⟨by rw [hU2.out]; rfl, hR.out.below.trans (k5.out.mono hR.out.less)⟩
    · have es : ((bs x).toList == [42]) = false := by have := is_star x; simp only [show (⟨#[42]⟩ : ByteArray).toList = [42] by simp [ByteArray.toList_eq]] at this; rw [this]; simpa using hst
      have hU2 : Hid (partU f s.data.toList = match rangeU f x false with | some (a, b) => some (bitsN 0 a b 1) | none => none) := by
        have := hU.out
        rw [if_neg hst] at this
        exact this
      clear hU hst
      go_wp2_with fail
      refine (Cr.out false _ hR.out.tab hR.out.names).mono ?_
      rintro e w5 ⟨⟨a, b, ha, hb, hab, rfl⟩, k5⟩
      clear q0 q1 q2
      have b5 := Lib.hid (hR.out.below.trans (k5.mono hR.out.less))
      clear k5 hR es
      replace hab := Lib.hid hab
      generalize hr : rangeU f x false = r at *
      cases r with
      | none =>
        clear hr
        simp only [spanV, Option.isSome_none]
        go_wp2_with fail
        go_ret2
        exact ⟨by rw [hU2.out]; rfl, b5.out.alloc b5.out.size _⟩
      | some pq =>
        obtain ⟨p, q⟩ := pq
        obtain ⟨rfl, rfl⟩ := hab.out p q rfl
        obtain ⟨g1, g2⟩ := range_le hf hr
        clear hab hr
        simp only [spanV, Option.isSome_some]
        have ce := Lib.hid (fun W => every_any a b 1 W (by omega) (by omega) (by omega) (by omega))
        simp only [spanV] at ce
        replace hU2 := Lib.hid (show partU f s.data.toList = some (bitsN 0 a b 1) from hU2.out)
        generalize bitsN 0 a b 1 = res at *
        go_wp2_with fail
        refine (ce.out _).mono ?_
        rintro e w6 ⟨rfl, k6⟩
        replace k6 := Lib.hid k6
        go_wp2_with fail
        go_ret2
        refine ⟨by rw [hU2.out]; rfl, (b5.out.alloc b5.out.size _).trans (k6.out.mono ?_)⟩
        have := b5.out.size
        simp
        omega
  | true =>
    go_wp2_with fail
    refine (Cn.out _).mono ?_
    rintro e w4 ⟨rfl, rfl⟩
    clear Cn
    cases hn : number y with
    | none =>
      have hU2 : Hid (partU f s.data.toList = none) := by
        have := hU.out
        simp only [stepU, if_true, hn] at this
        exact this
      clear hU hn
      simp only [answerN]
      go_wp2_with fail
      go_ret2
      exact ⟨by rw [hU2.out]; rfl, hR.out.below⟩
    | some n =>
      have hn9 := number_le hn
      by_cases h1 : 1 ≤ n
      · replace hU : Hid (partU f s.data.toList = if x = star then some (bitsN 0 lo hi n) else match rangeU f x true with
            | some (a, b) => some (bitsN 0 a b n)
            | none => none) := by
          have := hU.out
          simp only [stepU, if_true, hn, if_pos h1] at this
          exact this
        clear hn
        simp only [answerN]
        by_cases hst : x = star
        · have es : ((bs x).toList == [42]) = true := by have := is_star x; simp only [show (⟨#[42]⟩ : ByteArray).toList = [42] by simp [ByteArray.toList_eq]] at this; rw [this]; simpa using hst
          have hU2 : Hid (partU f s.data.toList = some (bitsN 0 lo hi n)) := by
            have := hU.out
            rw [if_pos hst] at this
            exact this
          clear hU hst
          have ce := Lib.hid (fun W => every_any lo hi n W (by omega) (by omega) h1 (by omega))
          simp only [spanV] at ce
          generalize bitsN 0 lo hi n = res at *
          go_wp2_with fail
          refine (ce.out _).mono ?_
          rintro e w5 ⟨rfl, k5⟩
          replace k5 := Lib.hid k5
          go_wp2_with fail
          go_ret2
          exact ⟨by rw [hU2.out]; rfl, hR.out.below.trans (k5.out.mono hR.out.less)⟩
        · have es : ((bs x).toList == [42]) = false := by have := is_star x; simp only [show (⟨#[42]⟩ : ByteArray).toList = [42] by simp [ByteArray.toList_eq]] at this; rw [this]; simpa using hst
          have hU2 : Hid (partU f s.data.toList = match rangeU f x true with | some (a, b) => some (bitsN 0 a b n) | none => none) := by
            have := hU.out
            rw [if_neg hst] at this
            exact this
          clear hU hst
          go_wp2_with fail
          refine (Cr.out true _ hR.out.tab hR.out.names).mono ?_
          rintro e w5 ⟨⟨a, b, ha, hb, hab, rfl⟩, k5⟩
          clear q0 q1 q2
          have b5 := Lib.hid (hR.out.below.trans (k5.mono hR.out.less))
          clear k5 hR es
          replace hab := Lib.hid hab
          generalize hr : rangeU f x true = r at *
          cases r with
          | none =>
            clear hr
            simp only [spanV, Option.isSome_none]
            go_wp2_with fail
            go_ret2
            exact ⟨by rw [hU2.out]; rfl, b5.out.alloc b5.out.size _⟩
          | some pq =>
            obtain ⟨p, q⟩ := pq
            obtain ⟨rfl, rfl⟩ := hab.out p q rfl
            obtain ⟨g1, g2⟩ := range_le hf hr
            clear hab hr
            simp only [spanV, Option.isSome_some]
            have ce := Lib.hid (fun W => every_any a b n W (by omega) (by omega) h1 (by omega))
            simp only [spanV] at ce
            replace hU2 := Lib.hid (show partU f s.data.toList = some (bitsN 0 a b n) from hU2.out)
            generalize bitsN 0 a b n = res at *
            go_wp2_with fail
            refine (ce.out _).mono ?_
            rintro e w6 ⟨rfl, k6⟩
            replace k6 := Lib.hid k6
            go_wp2_with fail
            go_ret2
            refine ⟨by rw [hU2.out]; rfl, (b5.out.alloc b5.out.size _).trans (k6.out.mono ?_)⟩
            have := b5.out.size
            simp
            omega
      · have hU2 : Hid (partU f s.data.toList = none) := by
          have := hU.out
          simp only [stepU, if_true, hn, if_neg h1] at this
          exact this
        clear hU hn
        simp only [answerN]
        go_wp2_with fail
        go_ret2
        exact ⟨by rw [hU2.out]; rfl, hR.out.below⟩

set_option maxRecDepth 100000 in
set_option maxHeartbeats 1000000 in
theorem fieldParse_any (f : Nat) (m : Value) (s : ByteArray) (w : World) (hf : f < 5) (hs : s.size ≤ 1000) (tb : Tab w) (hN : NamesAt w m f) :
    Calls Tryz.prog 119 #[fieldV f m, .string s] w fun e w' => e = answer (fieldU f s.data.toList) ∧ Below w.heap.size w w' := by
  have hR := Lib.hid (Fld.start w (low f) (high f) f m tb hN)
  have hsz : ∀ q ∈ split 44 s.data.toList, q.length ≤ 1000 := fun q hq => by
    have := Go.Proofs.YtiidhcpflplpiaaGreatDoor.split_len hq
    simp at this
    omega
  have Cs : Hid (∀ W, Tab W → Calls Tryz.prog 143 #[.string s, .string ⟨#[44]⟩] W fun e w' => (∃ v, e = .returned v ∧ Strs w' v (split 44 s.data.toList)) ∧ Below W.heap.size W w') := fun W h => split2_any s 44 W h hs
  have hd : Hid (partsU f (split 44 s.data.toList) 0 = fieldU f s.data.toList) := rfl
  have hln : (split 44 s.data.toList).length ≤ 1001 := by
    have := split_count 44 s.data.toList
    simp at this
    omega
  have Cp : Hid (∀ (q : Bytes) W, q.length ≤ 1000 → Tab W → NamesAt W m f → Calls Tryz.prog 144 #[fieldV f m, .string (bs q)] W fun e w' => e = answer (partU f q) ∧ Below W.heap.size W w') := fun q W h1 h2 h3 => parsePart_any f m (bs q) W hf (by rw [bs_size]; exact h1) h2 h3
  unfold fieldV at Cp ⊢
  generalize low f = lo at *
  generalize high f = hi at *
  generalize fieldU f s.data.toList = res at *
  generalize split 44 s.data.toList = l at *
  clear tb hN
  go_enter Tryz.func119, Tryz.ntmps119
  go_wp2_with fail
  refine (Cs.out _ hR.out.tab).mono ?_
  rintro e w1 ⟨⟨v, rfl, b, cap, rfl, hc⟩, k1⟩
  replace hR := Lib.hid (hR.out.step k1)
  clear k1 Cs
  replace hc := Lib.hid hc
  replace hsz := Lib.hid hsz
  go_wp2_with fail
  go_loopw [6, 14] (fun v i wr => ∃ k t : Nat, k ≤ l.length ∧ v = .int .u64 t ∧ i = .int .i64 k ∧ t < 18446744073709551616 ∧ Hid (partsU f (l.drop k) t = res) ∧ Hid (∀ i (h : i < l.length), wr.cell? ⟨b, i, none⟩ = some (.string (bs l[i]))) ∧ Hid (Fld w wr lo hi m f)) (fun _ i _ => l.length - (intOf i).toNat)
  case atStart => exact ⟨0, 0, by omega, rfl, rfl, by omega, hd, hc, hR⟩
  case round =>
    obtain ⟨k, t, hk, rfl, rfl, ht64, hp, hcell, hF⟩ := hrel
    clear hd hc hR
    by_cases hlt : k < l.length
    · have hck := hcell.out k hlt
      have hbl := World.block_lt_of_cell? wr _ hck
      have cp := Lib.hid (Cp.out l[k] wr (hsz.out _ (List.getElem_mem hlt)) hF.out.tab hF.out.names)
      have hdr : Hid (partsU f (l.drop k) t = match partU f l[k] with
        | some n => partsU f (l.drop (k + 1)) (t ||| n)
        | none => none) := by rw [List.drop_eq_getElem_cons hlt]; exact rfl
      have hpl : Hid (∀ n, partU f l[k] = some n → n < 18446744073709551616) := fun n h => Crn.part_lt hf h
      generalize bs l[k] = X at *
      generalize partU f l[k] = q at *
      obtain ⟨q0, q1, q2, -, -, -, -⟩ := hF.out
      go_wp2_with fail
      refine cp.out.mono ?_
      rintro e w2 ⟨rfl, k2⟩
      have hF2 := Lib.hid (hF.out.step k2)
      have hcell2 : Hid (∀ i (h : i < l.length), w2.cell? ⟨b, i, none⟩ = some (.string (bs l[i]))) := fun i h => (k2.cell (p := ⟨b, i, none⟩) hbl).trans (hcell.out i h)
      clear k2 cp hck hbl q0 q1 q2
      cases q with
      | none =>
        have hres : Hid (res = none) := hp.out.symm.trans hdr.out
        simp only [answer, Option.getD_none, Option.isSome_none]
        go_wp2_with fail
        go_ret2
        exact ⟨by rw [hres.out]; rfl, hF2.out.below⟩
      | some n =>
        have hn := hpl.out n rfl
        have hnext : Hid (partsU f (l.drop (k + 1)) (t ||| n) = res) := hdr.out.symm.trans hp.out
        simp only [answer, Option.getD_some, Option.isSome_some]
        clear hpl
        go_wp2_with fail
        exact ⟨⟨k + 1, t ||| n, by omega, by rw [u64_or_nat t n ht64 hn], by go_num, Nat.or_lt_two_pow (n := 64) ht64 hn, hnext, hcell2, hF2⟩, by simp [intOf]; omega⟩
    · have he : Hid (res = some t) := by
        rw [← hp.out, List.drop_eq_nil_of_le (by omega)]
        exact rfl
      go_wp2_with fail
      go_ret2
      exact ⟨by rw [he.out]; rfl, hF.out.below⟩
end Go.Proofs.YtiidhcpflplpiaaGreatDoor
