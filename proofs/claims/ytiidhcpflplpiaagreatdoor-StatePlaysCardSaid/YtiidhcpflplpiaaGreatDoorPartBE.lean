/-
  The document's part (layer 4), a part with a step: one place or two.
-/
import Derived.Test.YtiidhcpflplpiaaGreatDoorPart
namespace Go.Proofs.YtiidhcpflplpiaaGreatDoor
open Go.RowKit Crn

set_option maxRecDepth 100000 in
set_option maxHeartbeats 2000000 in
theorem part_two_w_ends (f : Nat) (s : ByteArray) (w : World) (hf : f < 5) (hs : s.size ≤ 1000) (p0 : Bytes) (l2 : List Bytes) (hL2 : split 45 p0 = l2) (p1 : Bytes) (st : Nat) (hL : split 47 s.data.toList = [p0, p1]) (hq : number p1 = some st) (hst1 : 1 ≤ st) (hst2 : st ≤ 99) (hl2 : l2.length = 2) (hf4 : f = 4) (hstar : ¬ p0 = star) (res : Option Nat) (hr : res = spanN f p0 st) :
    Calls Tryz.prog 63 #[.int .i64 f, .string s] w fun e w' => e = answer res ∧ Below w.heap.size w w' := by
  have ok2 : ((l2.length : Int) == 2) = true := by simp; omega
  have hle2 : l2.length ≤ 2 := by omega
  clear hl2
  have hp0 : p0.length ≤ 1000 := by have := split_len (q := p0) (c := 47) (l := s.data.toList) (by rw [hL]; simp); simp at this; omega
  have hp1 : p1.length ≤ 1000 := by have := split_len (q := p1) (c := 47) (l := s.data.toList) (by rw [hL]; simp); simp at this; omega
  have c1 := split_any s 47 w hs
  rw [hL] at c1
  have hlen2 : 1 ≤ l2.length := by
    cases l2 with
    | nil => exact absurd hL2 (splitP_ne _ _)
    | cons _ _ => simp
  have hsz0 : Hid (∀ q ∈ l2, q.length ≤ 1000) := fun q hq => by have := split_len (c := 45) (l := p0) (by rw [hL2]; exact hq); omega
  have hst := is_star p0
  rw [show (⟨#[42]⟩ : ByteArray).toList = [42] from ByteArray.toList_mk [42]] at hst
  have es : ((bs p0).toList == [42]) = false := by rw [hst]; simpa using hstar
  clear hst
  have Cs := Lib.hid (fun W => split_any (bs p0) 45 W (by rw [bs_size]; exact hp0))
  rw [bs_toList, hL2] at Cs
  have Cl := Lib.hid (fun W => low_any f W hf)
  have Ch := Lib.hid (fun W => high_any f W hf)
  have Cp := Lib.hid (fun (q : Bytes) (W : World) (h : (bs q).size ≤ 1000) => place_any f (bs q) W hf h)
  have Cn := Lib.hid (fun W => number_any (bs p1) W (by rw [bs_size]; exact hp1))
  rw [bs_toList, hq] at Cn
  generalize hP1 : bs p1 = P1 at *
  have hlow : low f ≤ 1 := by unfold low; split <;> omega
  have hhigh : high f ≤ 59 := by
    have : ∀ f, f < 5 → high f ≤ 59 := by decide
    exact this f hf
  have hse : Hid (∀ h2 : l2.length ≤ 2, res = match place f l2[0], place f l2[l2.length - 1] with
      | some a, some b => if b < a then none else some (bitsN f a b st)
      | _, _ => none) := fun h2 => hr.trans (span_ends hL2 hstar hlen2 h2)
  have hsm : Hid (2 < l2.length → res = none) := fun h => hr.trans (span_many hL2 hstar h)
  have e4 : ((f : Int) == 4) = true := by simp; omega
  replace hf4 := Lib.hid hf4
  clear hL2 hr hstar hL hq
  generalize hP0 : bs p0 = P0 at *
  go_enter Tryz.func63, Tryz.ntmps63
  go_wp2_with fail
  refine c1.mono ?_
  rintro e w1 ⟨⟨v, rfl, b1, cap1, rfl, hc1⟩, k1⟩
  clear c1
  replace k1 := Lib.hid k1
  have hX : w1.cell? ⟨b1, 0, none⟩ = some (.string P0) := by rw [← hP0]; exact hc1 0 (by simp)
  have hW1 : w1.cell? ⟨b1, 1, none⟩ = some (.string P1) := by rw [← hP1]; exact hc1 1 (by simp)
  have hbl1 := World.block_lt_of_cell? w1 _ hX
  clear hc1 hP0 hP1
  simp only [List.length_cons, List.length_nil, Nat.zero_add, Nat.reduceAdd]
  go_wp2_with fail
  refine (Cs.out _).mono ?_
  rintro e w2 ⟨⟨v, rfl, b2, cap2, rfl, hc2⟩, k2⟩
  have kw := Lib.hid (k1.out.trans (k2.mono k1.out.size))
  have hX2 := (k2.cell (p := ⟨b1, 0, none⟩) hbl1).trans hX
  have hbl12 : b1 < w2.heap.size := Nat.lt_of_lt_of_le hbl1 k2.size
  have hW2 := (k2.cell (p := ⟨b1, 1, none⟩) hbl1).trans hW1
  have cc2 := Lib.hid hc2
  clear hc2 k1 k2 hX hbl1 hW1
  have est : decide ((st : Int) < 1) = false := by simp; omega
  go_wp2_with fail
  refine (Cn.out _).mono ?_
  rintro e w' ⟨rfl, rfl⟩
  simp only [orNone]
  clear Cn hW2
  go_wp2_with fail
  refine (Cl.out _).mono ?_
  rintro e w' ⟨rfl, rfl⟩
  go_wp2_with fail
  refine (Ch.out _).mono ?_
  rintro e w3 ⟨rfl, k3⟩
  have kw3 := Lib.hid (kw.out.trans (k3.mono kw.out.size))
  have hX3 := (k3.cell (p := ⟨b1, 0, none⟩) hbl12).trans hX2
  have cc3 : Hid (∀ i (h : i < l2.length), w3.cell? ⟨b2, i, none⟩ = some (.string (bs l2[i]))) := fun i h => (k3.cell (p := ⟨b2, i, none⟩) (World.block_lt_of_cell? w2 _ (cc2.out i h))).trans (cc2.out i h)
  clear k3 hX2 hbl12 kw cc2
  have hval := Lib.hid (ends_val (hse.out (by omega)))
  have hY0 := cc3.out 0 (by omega)
  have hbl2 := World.block_lt_of_cell? w3 _ hY0
  have hY1 := Lib.hid (cc3.out (l2.length - 1) (by omega))
  have hz0 := orNone_place hf l2[0]
  have hz1 := orNone_place hf l2[l2.length - 1]
  have cp0 := Lib.hid (fun W => Cp.out l2[0] W (by rw [bs_size]; exact hsz0.out _ (List.getElem_mem (by omega))))
  have cp1 := Lib.hid (fun W => Cp.out l2[l2.length - 1] W (by rw [bs_size]; exact hsz0.out _ (List.getElem_mem (by omega))))
  rw [bs_toList] at cp0 cp1
  generalize orNone (place f l2[0]) = za at *
  generalize orNone (place f l2[l2.length - 1]) = zb at *
  generalize bs l2[0] = Y0 at *
  generalize bs l2[l2.length - 1] = Y1 at *
  clear hse hsm cc3 Cp
  go_wp2_with fail
  refine (cp0.out _).mono ?_
  rintro e w4 ⟨rfl, k4⟩
  have kw4 := Lib.hid (kw3.out.trans (k4.mono kw3.out.size))
  have hY4 := (k4.cell (p := ⟨b2, l2.length - 1, none⟩) hbl2).trans hY1.out
  clear k4 hY0 hY1 kw3 hX3
  go_wp2_with fail
  refine (cp1.out _).mono ?_
  rintro e w5 ⟨rfl, k5⟩
  have kwe := Lib.hid (kw4.out.trans (k5.mono kw4.out.size))
  clear k5 hY4 kw4
  by_cases g1 : za < 0
  · have hres := Lib.hid (hval.out.1 g1)
    go_wp2_with fail
    go_ret2
    exact ⟨by rw [hres.out]; rfl, kwe.out⟩
  · by_cases g2 : zb < za
    · have hres := Lib.hid (hval.out.2.1 g2)
      go_wp2_with fail
      go_ret2
      exact ⟨by rw [hres.out]; rfl, kwe.out⟩
    · have hres := Lib.hid (hval.out.2.2 (by omega) (by omega))
      obtain ⟨na, rfl⟩ : ∃ n : Nat, za = (n : Int) := ⟨za.toNat, by omega⟩
      obtain ⟨nb, rfl⟩ : ∃ n : Nat, zb = (n : Int) := ⟨zb.toNat, by omega⟩
      rw [Int.toNat_natCast, Int.toNat_natCast] at hres
      clear hval cp0 cp1
      go_wp2_with fail
      go_loop [11, 12] (fun set n => ∃ k m t : Nat, n = .int .i64 m ∧ set = .int .u64 t ∧ m ≤ 200 ∧ t < 18446744073709551616 ∧ nb + 1 - m ≤ k ∧ Hid (gatherN f (nb) st k m t = bitsN f na nb st)) (fun _ n => nb + 1 - (intOf n).toNat)
      case atStart => exact ⟨64, na, 0, rfl, rfl, by omega, by omega, by omega, rfl⟩
      case round =>
        obtain ⟨k, m, t, rfl, rfl, hm200, ht64, hfuel, hg⟩ := hrel
        by_cases hmt : m ≤ nb
        · by_cases h7 : m = 7
          · have e7 : ((m : Int) == 7) = true := by simp; omega
            have hn := Lib.hid (gather_next hmt hfuel hg.out)
            rw [bit_week hf4.out h7] at hn
            clear h7
            go_wp2_with fail
            exact ⟨⟨k - 1, m + st, t ||| 1, by go_num, by rw [or_one t ht64], by omega, or_lt (m := 0) ht64 (by omega), by omega, hn⟩, by simp [intOf]; omega⟩
          · have e7 : ((m : Int) == 7) = false := by simp; omega
            have hn := Lib.hid (gather_next hmt hfuel hg.out)
            rw [bit_plain (fun h => h7 h.2)] at hn
            go_wp2_with fail
            refine ⟨⟨k - 1, m + st, t ||| 2 ^ m, by go_num, by rw [or_pow t m ht64 (by omega)], by omega, or_lt ht64 (by omega), by omega, hn⟩, by simp [intOf]; omega⟩
        · have hn := Lib.hid (run_stop (st := st) (k := k) (set := t) (f := f) hmt)
          go_wp2_with fail
          go_ret2
          exact ⟨by rw [hres.out, ← hg.out, hn.out]; rfl, kwe.out⟩

set_option maxRecDepth 100000 in
set_option maxHeartbeats 2000000 in
theorem part_two_n_ends (f : Nat) (s : ByteArray) (w : World) (hf : f < 5) (hs : s.size ≤ 1000) (p0 : Bytes) (l2 : List Bytes) (hL2 : split 45 p0 = l2) (p1 : Bytes) (st : Nat) (hL : split 47 s.data.toList = [p0, p1]) (hq : number p1 = some st) (hst1 : 1 ≤ st) (hst2 : st ≤ 99) (hl2 : l2.length = 2) (hf4 : ¬ f = 4) (hstar : ¬ p0 = star) (res : Option Nat) (hr : res = spanN f p0 st) :
    Calls Tryz.prog 63 #[.int .i64 f, .string s] w fun e w' => e = answer res ∧ Below w.heap.size w w' := by
  have ok2 : ((l2.length : Int) == 2) = true := by simp; omega
  have hle2 : l2.length ≤ 2 := by omega
  clear hl2
  have hp0 : p0.length ≤ 1000 := by have := split_len (q := p0) (c := 47) (l := s.data.toList) (by rw [hL]; simp); simp at this; omega
  have hp1 : p1.length ≤ 1000 := by have := split_len (q := p1) (c := 47) (l := s.data.toList) (by rw [hL]; simp); simp at this; omega
  have c1 := split_any s 47 w hs
  rw [hL] at c1
  have hlen2 : 1 ≤ l2.length := by
    cases l2 with
    | nil => exact absurd hL2 (splitP_ne _ _)
    | cons _ _ => simp
  have hsz0 : Hid (∀ q ∈ l2, q.length ≤ 1000) := fun q hq => by have := split_len (c := 45) (l := p0) (by rw [hL2]; exact hq); omega
  have hst := is_star p0
  rw [show (⟨#[42]⟩ : ByteArray).toList = [42] from ByteArray.toList_mk [42]] at hst
  have es : ((bs p0).toList == [42]) = false := by rw [hst]; simpa using hstar
  clear hst
  have Cs := Lib.hid (fun W => split_any (bs p0) 45 W (by rw [bs_size]; exact hp0))
  rw [bs_toList, hL2] at Cs
  have Cl := Lib.hid (fun W => low_any f W hf)
  have Ch := Lib.hid (fun W => high_any f W hf)
  have Cp := Lib.hid (fun (q : Bytes) (W : World) (h : (bs q).size ≤ 1000) => place_any f (bs q) W hf h)
  have Cn := Lib.hid (fun W => number_any (bs p1) W (by rw [bs_size]; exact hp1))
  rw [bs_toList, hq] at Cn
  generalize hP1 : bs p1 = P1 at *
  have hlow : low f ≤ 1 := by unfold low; split <;> omega
  have hhigh : high f ≤ 59 := by
    have : ∀ f, f < 5 → high f ≤ 59 := by decide
    exact this f hf
  have hse : Hid (∀ h2 : l2.length ≤ 2, res = match place f l2[0], place f l2[l2.length - 1] with
      | some a, some b => if b < a then none else some (bitsN f a b st)
      | _, _ => none) := fun h2 => hr.trans (span_ends hL2 hstar hlen2 h2)
  have hsm : Hid (2 < l2.length → res = none) := fun h => hr.trans (span_many hL2 hstar h)
  have e4 : ((f : Int) == 4) = false := by simp; omega
  replace hf4 := Lib.hid hf4
  clear hL2 hr hstar hL hq
  generalize hP0 : bs p0 = P0 at *
  go_enter Tryz.func63, Tryz.ntmps63
  go_wp2_with fail
  refine c1.mono ?_
  rintro e w1 ⟨⟨v, rfl, b1, cap1, rfl, hc1⟩, k1⟩
  clear c1
  replace k1 := Lib.hid k1
  have hX : w1.cell? ⟨b1, 0, none⟩ = some (.string P0) := by rw [← hP0]; exact hc1 0 (by simp)
  have hW1 : w1.cell? ⟨b1, 1, none⟩ = some (.string P1) := by rw [← hP1]; exact hc1 1 (by simp)
  have hbl1 := World.block_lt_of_cell? w1 _ hX
  clear hc1 hP0 hP1
  simp only [List.length_cons, List.length_nil, Nat.zero_add, Nat.reduceAdd]
  go_wp2_with fail
  refine (Cs.out _).mono ?_
  rintro e w2 ⟨⟨v, rfl, b2, cap2, rfl, hc2⟩, k2⟩
  have kw := Lib.hid (k1.out.trans (k2.mono k1.out.size))
  have hX2 := (k2.cell (p := ⟨b1, 0, none⟩) hbl1).trans hX
  have hbl12 : b1 < w2.heap.size := Nat.lt_of_lt_of_le hbl1 k2.size
  have hW2 := (k2.cell (p := ⟨b1, 1, none⟩) hbl1).trans hW1
  have cc2 := Lib.hid hc2
  clear hc2 k1 k2 hX hbl1 hW1
  have est : decide ((st : Int) < 1) = false := by simp; omega
  go_wp2_with fail
  refine (Cn.out _).mono ?_
  rintro e w' ⟨rfl, rfl⟩
  simp only [orNone]
  clear Cn hW2
  go_wp2_with fail
  refine (Cl.out _).mono ?_
  rintro e w' ⟨rfl, rfl⟩
  go_wp2_with fail
  refine (Ch.out _).mono ?_
  rintro e w3 ⟨rfl, k3⟩
  have kw3 := Lib.hid (kw.out.trans (k3.mono kw.out.size))
  have hX3 := (k3.cell (p := ⟨b1, 0, none⟩) hbl12).trans hX2
  have cc3 : Hid (∀ i (h : i < l2.length), w3.cell? ⟨b2, i, none⟩ = some (.string (bs l2[i]))) := fun i h => (k3.cell (p := ⟨b2, i, none⟩) (World.block_lt_of_cell? w2 _ (cc2.out i h))).trans (cc2.out i h)
  clear k3 hX2 hbl12 kw cc2
  have hval := Lib.hid (ends_val (hse.out (by omega)))
  have hY0 := cc3.out 0 (by omega)
  have hbl2 := World.block_lt_of_cell? w3 _ hY0
  have hY1 := Lib.hid (cc3.out (l2.length - 1) (by omega))
  have hz0 := orNone_place hf l2[0]
  have hz1 := orNone_place hf l2[l2.length - 1]
  have cp0 := Lib.hid (fun W => Cp.out l2[0] W (by rw [bs_size]; exact hsz0.out _ (List.getElem_mem (by omega))))
  have cp1 := Lib.hid (fun W => Cp.out l2[l2.length - 1] W (by rw [bs_size]; exact hsz0.out _ (List.getElem_mem (by omega))))
  rw [bs_toList] at cp0 cp1
  generalize orNone (place f l2[0]) = za at *
  generalize orNone (place f l2[l2.length - 1]) = zb at *
  generalize bs l2[0] = Y0 at *
  generalize bs l2[l2.length - 1] = Y1 at *
  clear hse hsm cc3 Cp
  go_wp2_with fail
  refine (cp0.out _).mono ?_
  rintro e w4 ⟨rfl, k4⟩
  have kw4 := Lib.hid (kw3.out.trans (k4.mono kw3.out.size))
  have hY4 := (k4.cell (p := ⟨b2, l2.length - 1, none⟩) hbl2).trans hY1.out
  clear k4 hY0 hY1 kw3 hX3
  go_wp2_with fail
  refine (cp1.out _).mono ?_
  rintro e w5 ⟨rfl, k5⟩
  have kwe := Lib.hid (kw4.out.trans (k5.mono kw4.out.size))
  clear k5 hY4 kw4
  by_cases g1 : za < 0
  · have hres := Lib.hid (hval.out.1 g1)
    go_wp2_with fail
    go_ret2
    exact ⟨by rw [hres.out]; rfl, kwe.out⟩
  · by_cases g2 : zb < za
    · have hres := Lib.hid (hval.out.2.1 g2)
      go_wp2_with fail
      go_ret2
      exact ⟨by rw [hres.out]; rfl, kwe.out⟩
    · have hres := Lib.hid (hval.out.2.2 (by omega) (by omega))
      obtain ⟨na, rfl⟩ : ∃ n : Nat, za = (n : Int) := ⟨za.toNat, by omega⟩
      obtain ⟨nb, rfl⟩ : ∃ n : Nat, zb = (n : Int) := ⟨zb.toNat, by omega⟩
      rw [Int.toNat_natCast, Int.toNat_natCast] at hres
      clear hval cp0 cp1
      go_wp2_with fail
      go_loop [11, 12] (fun set n => ∃ k m t : Nat, n = .int .i64 m ∧ set = .int .u64 t ∧ m ≤ 200 ∧ t < 18446744073709551616 ∧ nb + 1 - m ≤ k ∧ Hid (gatherN f (nb) st k m t = bitsN f na nb st)) (fun _ n => nb + 1 - (intOf n).toNat)
      case atStart => exact ⟨64, na, 0, rfl, rfl, by omega, by omega, by omega, rfl⟩
      case round =>
        obtain ⟨k, m, t, rfl, rfl, hm200, ht64, hfuel, hg⟩ := hrel
        by_cases hmt : m ≤ nb
        · have hm64 : m < 64 := by omega
          have hn := Lib.hid (gather_next hmt hfuel hg.out)
          rw [bit_plain (fun h => hf4.out h.1)] at hn
          go_wp2_with fail
          refine ⟨⟨k - 1, m + st, t ||| 2 ^ m, by go_num, by rw [or_pow t m ht64 hm64], by omega, or_lt ht64 (by omega), by omega, hn⟩, by simp [intOf]; omega⟩
        · have hn := Lib.hid (run_stop (st := st) (k := k) (set := t) (f := f) hmt)
          go_wp2_with fail
          go_ret2
          exact ⟨by rw [hres.out, ← hg.out, hn.out]; rfl, kwe.out⟩

end Go.Proofs.YtiidhcpflplpiaaGreatDoor
