/-
  The document's part (layer 4), a part without a step: all numbers.
-/
import Derived.Test.YtiidhcpflplpiaaGreatDoorPart
namespace Go.Proofs.YtiidhcpflplpiaaGreatDoor
open Go.RowKit Crn

set_option maxRecDepth 100000 in
set_option maxHeartbeats 2000000 in
theorem part_one_w_star (f : Nat) (s : ByteArray) (w : World) (hf : f < 5) (hs : s.size ≤ 1000) (p0 : Bytes) (l2 : List Bytes) (hL2 : split 45 p0 = l2) (hL : split 47 s.data.toList = [p0]) (hf4 : f = 4) (hstar : p0 = star) (res : Option Nat) (hr : res = spanN f p0 1) :
    Calls Tryz.prog 63 #[.int .i64 f, .string s] w fun e w' => e = answer res ∧ Below w.heap.size w w' := by
  have hp0 : p0.length ≤ 1000 := by have := split_len (q := p0) (c := 47) (l := s.data.toList) (by rw [hL]; simp); simp at this; omega
  have c1 := split_any s 47 w hs
  rw [hL] at c1
  have hlen2 : 1 ≤ l2.length := by
    cases l2 with
    | nil => exact absurd hL2 (splitP_ne _ _)
    | cons _ _ => simp
  have hsz0 : Hid (∀ q ∈ l2, q.length ≤ 1000) := fun q hq => by have := split_len (c := 45) (l := p0) (by rw [hL2]; exact hq); omega
  have hst := is_star p0
  rw [show (⟨#[42]⟩ : ByteArray).toList = [42] from ByteArray.toList_mk [42]] at hst
  have es : ((bs p0).toList == [42]) = true := by rw [hst]; simpa using hstar
  clear hst
  have Cs := Lib.hid (fun W => split_any (bs p0) 45 W (by rw [bs_size]; exact hp0))
  rw [bs_toList, hL2] at Cs
  have Cl := Lib.hid (fun W => low_any f W hf)
  have Ch := Lib.hid (fun W => high_any f W hf)
  have Cp := Lib.hid (fun (q : Bytes) (W : World) (h : (bs q).size ≤ 1000) => place_any f (bs q) W hf h)
  have hlow : low f ≤ 1 := by unfold low; split <;> omega
  have hhigh : high f ≤ 59 := by
    have : ∀ f, f < 5 → high f ≤ 59 := by decide
    exact this f hf
  have hres : Hid (res = some (bitsN f (low f) (6) 1)) := by
    have : top f = 6 := by rw [hf4]; rfl
    rw [← this]
    exact hr.trans (if_pos hstar)
  have e4 : ((f : Int) == 4) = true := by simp; omega
  replace hf4 := Lib.hid hf4
  clear hL2 hr hstar hL
  generalize hP0 : bs p0 = P0 at *
  go_enter Tryz.func63, Tryz.ntmps63
  go_wp2_with fail
  refine c1.mono ?_
  rintro e w1 ⟨⟨v, rfl, b1, cap1, rfl, hc1⟩, k1⟩
  clear c1
  replace k1 := Lib.hid k1
  have hX : w1.cell? ⟨b1, 0, none⟩ = some (.string P0) := by rw [← hP0]; exact hc1 0 (by simp)
  have hbl1 := World.block_lt_of_cell? w1 _ hX
  clear hc1 hP0
  simp only [List.length_cons, List.length_nil, Nat.zero_add]
  go_wp2_with fail
  refine (Cs.out _).mono ?_
  rintro e w2 ⟨⟨v, rfl, b2, cap2, rfl, hc2⟩, k2⟩
  have kw := Lib.hid (k1.out.trans (k2.mono k1.out.size))
  have hX2 := (k2.cell (p := ⟨b1, 0, none⟩) hbl1).trans hX
  have hbl12 : b1 < w2.heap.size := Nat.lt_of_lt_of_le hbl1 k2.size
  have cc2 := Lib.hid hc2
  clear hc2 k1 k2 hX hbl1
  go_wp2_with fail
  refine (Cl.out _).mono ?_
  rintro e w' ⟨rfl, rfl⟩
  go_wp2_with fail
  refine (Ch.out _).mono ?_
  rintro e w3 ⟨rfl, k3⟩
  have kw3 := Lib.hid (kw.out.trans (k3.mono kw.out.size))
  have hX3 := (k3.cell (p := ⟨b1, 0, none⟩) hbl12).trans hX2
  have cc3 : Hid (∀ i (h : i < l2.length), w3.cell? ⟨b2, i, none⟩ = some (.string (bs l2[i]))) := fun i h => (k3.cell (p := ⟨b2, i, none⟩) (World.block_lt_of_cell? w2 _ (cc2.out i h))).trans (cc2.out i h)
  clear k3 hX2 hbl12 kw cc2
  have kwe := kw3
  clear cc3 Cp kw3
  go_wp2_with fail
  go_loop [11, 12] (fun set n => ∃ k m t : Nat, n = .int .i64 m ∧ set = .int .u64 t ∧ m ≤ 200 ∧ t < 18446744073709551616 ∧ 6 + 1 - m ≤ k ∧ Hid (gatherN f (6) 1 k m t = bitsN f (low f) (6) 1)) (fun _ n => 6 + 1 - (intOf n).toNat)
  case atStart => exact ⟨64, low f, 0, rfl, rfl, by omega, by omega, by omega, rfl⟩
  case round =>
    obtain ⟨k, m, t, rfl, rfl, hm200, ht64, hfuel, hg⟩ := hrel
    by_cases hmt : m ≤ 6
    · by_cases h7 : m = 7
      · have e7 : ((m : Int) == 7) = true := by simp; omega
        have hn := Lib.hid (gather_next hmt hfuel hg.out)
        rw [bit_week hf4.out h7] at hn
        clear h7
        go_wp2_with fail
        exact ⟨⟨k - 1, m + 1, t ||| 1, by go_num, by rw [or_one t ht64], by omega, or_lt (m := 0) ht64 (by omega), by omega, hn⟩, by simp [intOf]; omega⟩
      · have e7 : ((m : Int) == 7) = false := by simp; omega
        have hn := Lib.hid (gather_next hmt hfuel hg.out)
        rw [bit_plain (fun h => h7 h.2)] at hn
        go_wp2_with fail
        refine ⟨⟨k - 1, m + 1, t ||| 2 ^ m, by go_num, by rw [or_pow t m ht64 (by omega)], by omega, or_lt ht64 (by omega), by omega, hn⟩, by simp [intOf]; omega⟩
    · have hn := Lib.hid (run_stop (st := 1) (k := k) (set := t) (f := f) hmt)
      go_wp2_with fail
      go_ret2
      exact ⟨by rw [hres.out, ← hg.out, hn.out]; rfl, kwe.out⟩

set_option maxRecDepth 100000 in
set_option maxHeartbeats 2000000 in
theorem part_one_n_star (f : Nat) (s : ByteArray) (w : World) (hf : f < 5) (hs : s.size ≤ 1000) (p0 : Bytes) (l2 : List Bytes) (hL2 : split 45 p0 = l2) (hL : split 47 s.data.toList = [p0]) (hf4 : ¬ f = 4) (hstar : p0 = star) (res : Option Nat) (hr : res = spanN f p0 1) :
    Calls Tryz.prog 63 #[.int .i64 f, .string s] w fun e w' => e = answer res ∧ Below w.heap.size w w' := by
  have hp0 : p0.length ≤ 1000 := by have := split_len (q := p0) (c := 47) (l := s.data.toList) (by rw [hL]; simp); simp at this; omega
  have c1 := split_any s 47 w hs
  rw [hL] at c1
  have hlen2 : 1 ≤ l2.length := by
    cases l2 with
    | nil => exact absurd hL2 (splitP_ne _ _)
    | cons _ _ => simp
  have hsz0 : Hid (∀ q ∈ l2, q.length ≤ 1000) := fun q hq => by have := split_len (c := 45) (l := p0) (by rw [hL2]; exact hq); omega
  have hst := is_star p0
  rw [show (⟨#[42]⟩ : ByteArray).toList = [42] from ByteArray.toList_mk [42]] at hst
  have es : ((bs p0).toList == [42]) = true := by rw [hst]; simpa using hstar
  clear hst
  have Cs := Lib.hid (fun W => split_any (bs p0) 45 W (by rw [bs_size]; exact hp0))
  rw [bs_toList, hL2] at Cs
  have Cl := Lib.hid (fun W => low_any f W hf)
  have Ch := Lib.hid (fun W => high_any f W hf)
  have Cp := Lib.hid (fun (q : Bytes) (W : World) (h : (bs q).size ≤ 1000) => place_any f (bs q) W hf h)
  have hlow : low f ≤ 1 := by unfold low; split <;> omega
  have hhigh : high f ≤ 59 := by
    have : ∀ f, f < 5 → high f ≤ 59 := by decide
    exact this f hf
  have hres : Hid (res = some (bitsN f (low f) (high f) 1)) := by
    have : top f = high f := by unfold top; rw [if_neg hf4]
    rw [← this]
    exact hr.trans (if_pos hstar)
  have e4 : ((f : Int) == 4) = false := by simp; omega
  replace hf4 := Lib.hid hf4
  clear hL2 hr hstar hL
  generalize hP0 : bs p0 = P0 at *
  go_enter Tryz.func63, Tryz.ntmps63
  go_wp2_with fail
  refine c1.mono ?_
  rintro e w1 ⟨⟨v, rfl, b1, cap1, rfl, hc1⟩, k1⟩
  clear c1
  replace k1 := Lib.hid k1
  have hX : w1.cell? ⟨b1, 0, none⟩ = some (.string P0) := by rw [← hP0]; exact hc1 0 (by simp)
  have hbl1 := World.block_lt_of_cell? w1 _ hX
  clear hc1 hP0
  simp only [List.length_cons, List.length_nil, Nat.zero_add]
  go_wp2_with fail
  refine (Cs.out _).mono ?_
  rintro e w2 ⟨⟨v, rfl, b2, cap2, rfl, hc2⟩, k2⟩
  have kw := Lib.hid (k1.out.trans (k2.mono k1.out.size))
  have hX2 := (k2.cell (p := ⟨b1, 0, none⟩) hbl1).trans hX
  have hbl12 : b1 < w2.heap.size := Nat.lt_of_lt_of_le hbl1 k2.size
  have cc2 := Lib.hid hc2
  clear hc2 k1 k2 hX hbl1
  go_wp2_with fail
  refine (Cl.out _).mono ?_
  rintro e w' ⟨rfl, rfl⟩
  go_wp2_with fail
  refine (Ch.out _).mono ?_
  rintro e w3 ⟨rfl, k3⟩
  have kw3 := Lib.hid (kw.out.trans (k3.mono kw.out.size))
  have hX3 := (k3.cell (p := ⟨b1, 0, none⟩) hbl12).trans hX2
  have cc3 : Hid (∀ i (h : i < l2.length), w3.cell? ⟨b2, i, none⟩ = some (.string (bs l2[i]))) := fun i h => (k3.cell (p := ⟨b2, i, none⟩) (World.block_lt_of_cell? w2 _ (cc2.out i h))).trans (cc2.out i h)
  clear k3 hX2 hbl12 kw cc2
  have kwe := kw3
  clear cc3 Cp kw3
  go_wp2_with fail
  go_loop [11, 12] (fun set n => ∃ k m t : Nat, n = .int .i64 m ∧ set = .int .u64 t ∧ m ≤ 200 ∧ t < 18446744073709551616 ∧ high f + 1 - m ≤ k ∧ Hid (gatherN f (high f) 1 k m t = bitsN f (low f) (high f) 1)) (fun _ n => high f + 1 - (intOf n).toNat)
  case atStart => exact ⟨64, low f, 0, rfl, rfl, by omega, by omega, by omega, rfl⟩
  case round =>
    obtain ⟨k, m, t, rfl, rfl, hm200, ht64, hfuel, hg⟩ := hrel
    by_cases hmt : m ≤ high f
    · have hm64 : m < 64 := by omega
      have hn := Lib.hid (gather_next hmt hfuel hg.out)
      rw [bit_plain (fun h => hf4.out h.1)] at hn
      go_wp2_with fail
      refine ⟨⟨k - 1, m + 1, t ||| 2 ^ m, by go_num, by rw [or_pow t m ht64 hm64], by omega, or_lt ht64 (by omega), by omega, hn⟩, by simp [intOf]; omega⟩
    · have hn := Lib.hid (run_stop (st := 1) (k := k) (set := t) (f := f) hmt)
      go_wp2_with fail
      go_ret2
      exact ⟨by rw [hres.out, ← hg.out, hn.out]; rfl, kwe.out⟩

end Go.Proofs.YtiidhcpflplpiaaGreatDoor
