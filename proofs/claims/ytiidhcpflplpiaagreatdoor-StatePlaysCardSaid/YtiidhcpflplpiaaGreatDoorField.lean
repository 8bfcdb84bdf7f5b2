/-
  The document's part and field (layer 4): whatever the text.
-/
import Derived.Test.YtiidhcpflplpiaaGreatDoorPartAS
import Derived.Test.YtiidhcpflplpiaaGreatDoorPartAE
import Derived.Test.YtiidhcpflplpiaaGreatDoorPartBS
import Derived.Test.YtiidhcpflplpiaaGreatDoorPartBE
namespace Go.Proofs.YtiidhcpflplpiaaGreatDoor
open Go.RowKit Crn

set_option maxRecDepth 100000 in
set_option maxHeartbeats 400000 in
theorem part_three (f : Nat) (s : ByteArray) (w : World) (hs : s.size ≤ 1000) (hm : 2 < (split 47 s.data.toList).length) :
    Calls Tryz.prog 63 #[.int .i64 f, .string s] w fun e w' => e = answer none ∧ Below w.heap.size w w' := by
  have c1 := Lib.hid (split_any s 47 w hs)
  generalize split 47 s.data.toList = l1 at *
  go_enter Tryz.func63, Tryz.ntmps63
  go_wp2_with fail
  refine c1.out.mono ?_
  rintro e w1 ⟨⟨v, rfl, b1, cap1, rfl, hc1⟩, k1⟩
  replace k1 := Lib.hid k1
  clear hc1
  go_wp2_with fail
  go_ret2
  exact ⟨rfl, k1.out⟩

set_option maxRecDepth 100000 in
set_option maxHeartbeats 400000 in
/-- A step that is none, or that stands behind one place. -/
theorem part_bad (f : Nat) (s : ByteArray) (w : World) (hs : s.size ≤ 1000) (p0 p1 : Bytes) (l2 : List Bytes) (hL2 : split 45 p0 = l2) (hL : split 47 s.data.toList = [p0, p1])
    (hbad : orNone (number p1) < 1 ∨ (¬ p0 = star ∧ ¬ l2.length = 2)) :
    Calls Tryz.prog 63 #[.int .i64 f, .string s] w fun e w' => e = answer none ∧ Below w.heap.size w w' := by
  have hp0 : p0.length ≤ 1000 := by have := split_len (q := p0) (c := 47) (l := s.data.toList) (by rw [hL]; simp); simp at this; omega
  have hp1 : p1.length ≤ 1000 := by have := split_len (q := p1) (c := 47) (l := s.data.toList) (by rw [hL]; simp); simp at this; omega
  have c1 := split_any s 47 w hs
  rw [hL] at c1
  have Cs := Lib.hid (fun W => split_any (bs p0) 45 W (by rw [bs_size]; exact hp0))
  rw [bs_toList, hL2] at Cs
  have Cn := Lib.hid (fun W => number_any (bs p1) W (by rw [bs_size]; exact hp1))
  rw [bs_toList] at Cn
  have hz := orNone_bound p1
  have hst := is_star p0
  rw [show (⟨#[42]⟩ : ByteArray).toList = [42] from ByteArray.toList_mk [42]] at hst
  have es : Hid (¬ p0 = star → ((bs p0).toList == [42]) = false) := fun h => by rw [hst]; simpa using h
  generalize hP0 : bs p0 = P0 at *
  generalize hP1 : bs p1 = P1 at *
  generalize orNone (number p1) = z at *
  clear hst hL hL2
  go_enter Tryz.func63, Tryz.ntmps63
  go_wp2_with fail
  refine c1.mono ?_
  rintro e w1 ⟨⟨v, rfl, b1, cap1, rfl, hc1⟩, k1⟩
  clear c1
  replace k1 := Lib.hid k1
  have hX : w1.cell? ⟨b1, 0, none⟩ = some (.string P0) := by rw [← hP0]; exact hc1 0 (by simp)
  have hW1 : w1.cell? ⟨b1, 1, none⟩ = some (.string P1) := by rw [← hP1]; exact hc1 1 (by simp)
  have hbl1 := World.block_lt_of_cell? w1 _ hX
  clear hc1 hP0 hP1
  simp only [List.length_cons, List.length_nil, Nat.zero_add, Nat.reduceAdd]
  go_wp2_with fail
  refine (Cs.out _).mono ?_
  rintro e w2 ⟨⟨v, rfl, b2, cap2, rfl, hc2⟩, k2⟩
  have kw := Lib.hid (k1.out.trans (k2.mono k1.out.size))
  have hX2 := (k2.cell (p := ⟨b1, 0, none⟩) hbl1).trans hX
  have hW2 := (k2.cell (p := ⟨b1, 1, none⟩) hbl1).trans hW1
  clear hc2 k1 k2 hX hbl1 hW1
  go_wp2_with fail
  refine (Cn.out _).mono ?_
  rintro e w' ⟨rfl, rfl⟩
  clear Cn hW2
  by_cases hz1 : z < 1
  · clear hbad
    go_wp2_with fail
    go_ret2
    exact ⟨rfl, kw.out⟩
  · obtain ⟨h1, h2⟩ : ¬ p0 = star ∧ ¬ l2.length = 2 := by
      rcases hbad with h | h
      · exact absurd h hz1
      · exact h
    have es' := es.out h1
    have e2 : ((l2.length : Int) != 2) = true := by simp; omega
    clear hbad es h1 h2
    go_wp2_with fail
    go_ret2
    exact ⟨rfl, kw.out⟩

theorem part_any (f : Nat) (s : ByteArray) (w : World) (hf : f < 5) (hs : s.size ≤ 1000) :
    Calls Tryz.prog 63 #[.int .i64 f, .string s] w fun e w' => e = answer (partN f s.data.toList) ∧ Below w.heap.size w w' := by
  match hL : split 47 s.data.toList with
  | [] => exact absurd hL (splitP_ne _ _)
  | [p0] =>
    have hr := part_one (f := f) hL rfl
    by_cases hf4 : f = 4
    · by_cases hstar : p0 = star
      · exact part_one_w_star f s w hf hs p0 _ rfl hL hf4 hstar _ hr
      · exact part_one_w_ends f s w hf hs p0 _ rfl hL hf4 hstar _ hr
    · by_cases hstar : p0 = star
      · exact part_one_n_star f s w hf hs p0 _ rfl hL hf4 hstar _ hr
      · exact part_one_n_ends f s w hf hs p0 _ rfl hL hf4 hstar _ hr
  | [p0, p1] =>
    have hr := part_two (f := f) hL rfl
    cases hq : number p1 with
    | none =>
      rw [show ([p0, p1] : List Bytes)[1] = p1 from rfl, hq] at hr
      rw [hr]
      exact part_bad f s w hs p0 p1 _ rfl hL (Or.inl (by rw [hq]; decide))
    | some st =>
      have hst2 := number_le hq
      rw [show ([p0, p1] : List Bytes)[1] = p1 from rfl, hq] at hr
      by_cases hok : 1 ≤ st ∧ (p0 = star ∨ (split 45 p0).length = 2)
      · have hr' : partN f s.data.toList = spanN f p0 st := hr.trans (if_pos hok)
        by_cases hf4 : f = 4
        · by_cases hstar : p0 = star
          · exact part_two_w_star f s w hf hs p0 _ rfl p1 st hL hq hok.1 hst2 hf4 hstar _ hr'
          · exact part_two_w_ends f s w hf hs p0 _ rfl p1 st hL hq hok.1 hst2 (by rcases hok.2 with h | h; exact absurd h hstar; exact h) hf4 hstar _ hr'
        · by_cases hstar : p0 = star
          · exact part_two_n_star f s w hf hs p0 _ rfl p1 st hL hq hok.1 hst2 hf4 hstar _ hr'
          · exact part_two_n_ends f s w hf hs p0 _ rfl p1 st hL hq hok.1 hst2 (by rcases hok.2 with h | h; exact absurd h hstar; exact h) hf4 hstar _ hr'
      · rw [hr.trans (if_neg hok)]
        refine part_bad f s w hs p0 p1 _ rfl hL ?_
        rw [hq]
        by_cases h1 : 1 ≤ st
        · exact Or.inr ⟨fun e => hok ⟨h1, Or.inl e⟩, fun e => hok ⟨h1, Or.inr e⟩⟩
        · exact Or.inl (by simp only [orNone]; omega)
  | p0 :: p1 :: p2 :: r =>
    rw [part_many (f := f) hL (by simp)]
    exact part_three f s w hs (by rw [hL]; simp)

theorem split_count (c : UInt8) (l : Bytes) : (split c l).length ≤ l.length + 1 := by
  unfold split
  induction l with
  | nil => simp [splitP]
  | cons x l ih =>
    cases hx : x == c
    · rw [splitP_no (p := (· == c)) hx]
      cases hs : splitP (· == c) l with
      | nil => exact absurd hs (splitP_ne _ _)
      | cons y t =>
        rw [hs] at ih
        simp only [onto, List.length_cons] at ih ⊢
        omega
    · rw [splitP_yes (p := (· == c)) hx]
      simp only [List.length_cons]
      omega

theorem part_lt {f n : Nat} (hf : f < 5) {s : Bytes} (h : partN f s = some n) : n < 18446744073709551616 := by
  have hs := (okSet_iff.1 (part_ok hf h)).2
  have h1 : n ≤ every f 1 := by rw [← hs]; exact Nat.and_le_right
  have h2 := every_lt f hf
  have h3 : (2 : Nat) ^ 64 = 18446744073709551616 := by decide
  omega

set_option maxRecDepth 100000 in
set_option maxHeartbeats 400000 in
theorem field_any (f : Nat) (s : ByteArray) (w : World) (hf : f < 5) (hs : s.size ≤ 1000) :
    Calls Tryz.prog 46 #[.int .i64 f, .string s] w fun e w' => e = answer (field f s.data.toList) ∧ Below w.heap.size w w' := by
  have hsz : ∀ q ∈ split 44 s.data.toList, q.length ≤ 1000 := fun q hq => by
    have := split_len hq
    simp at this
    omega
  have c1 := Lib.hid (split_any s 44 w hs)
  have hd : Hid (parts f (split 44 s.data.toList) 0 = field f s.data.toList) := rfl
  have hln : (split 44 s.data.toList).length ≤ 1001 := by
    have := split_count 44 s.data.toList
    simp at this
    omega
  generalize field f s.data.toList = res at *
  generalize split 44 s.data.toList = l at *
  go_enter Tryz.func46, Tryz.ntmps46
  go_wp2_with fail
  refine c1.out.mono ?_
  rintro e w1 ⟨⟨v, rfl, b, cap, rfl, hc⟩, k1⟩
  replace k1 := Lib.hid k1
  replace hc := Lib.hid hc
  replace hsz := Lib.hid hsz
  clear c1
  go_wp2_with fail
  go_loopw [7, 8] (fun v i wr => ∃ k t : Nat, k ≤ l.length ∧ v = .int .u64 t ∧ i = .int .i64 k ∧ t < 18446744073709551616 ∧ Hid (parts f (l.drop k) t = res) ∧ Hid (∀ i (h : i < l.length), wr.cell? ⟨b, i, none⟩ = some (.string (bs l[i]))) ∧ Hid (Below w.heap.size w wr)) (fun _ i _ => l.length - (intOf i).toNat)
  case atStart => exact ⟨0, 0, by omega, rfl, rfl, by omega, hd, hc, k1⟩
  case round =>
    obtain ⟨k, t, hk, rfl, rfl, ht64, hp, hcell, hb⟩ := hrel
    clear hd hc k1
    by_cases hlt : k < l.length
    · have hck := hcell.out k hlt
      have hbl := World.block_lt_of_cell? wr _ hck
      have cp := part_any f (bs l[k]) wr hf (by rw [bs_size]; exact hsz.out _ (List.getElem_mem hlt))
      rw [bs_toList] at cp
      have hdr : Hid (parts f (l.drop k) t = match partN f l[k] with
        | some n => parts f (l.drop (k + 1)) (t ||| n)
        | none => none) := by rw [List.drop_eq_getElem_cons hlt]; exact rfl
      have hpl : ∀ n, partN f l[k] = some n → n < 18446744073709551616 := fun n h => part_lt hf h
      generalize bs l[k] = X at *
      generalize partN f l[k] = q at *
      replace cp := Lib.hid cp
      go_wp2_with fail
      refine cp.out.mono ?_
      rintro e w2 ⟨rfl, k2⟩
      have kw := Lib.hid (hb.out.trans (k2.mono hb.out.size))
      have hcell2 : Hid (∀ i (h : i < l.length), w2.cell? ⟨b, i, none⟩ = some (.string (bs l[i]))) := fun i h => (k2.cell (p := ⟨b, i, none⟩) hbl).trans (hcell.out i h)
      clear k2 cp hck hbl
      cases q with
      | none =>
        have hres : Hid (res = none) := hp.out.symm.trans hdr.out
        simp only [answer, Option.getD_none, Option.isSome_none]
        go_wp2_with fail
        go_ret2
        exact ⟨by rw [hres.out]; rfl, kw.out⟩
      | some n =>
        have hn := hpl n rfl
        have hnext : Hid (parts f (l.drop (k + 1)) (t ||| n) = res) := hdr.out.symm.trans hp.out
        simp only [answer, Option.getD_some, Option.isSome_some]
        clear hpl
        go_wp2_with fail
        exact ⟨⟨k + 1, t ||| n, by omega, by rw [u64_or_nat t n ht64 hn], by go_num, Nat.or_lt_two_pow (n := 64) ht64 hn, hnext, hcell2, kw⟩, by simp [intOf]; omega⟩
    · have he : Hid (res = some t) := by
        rw [← hp.out, List.drop_eq_nil_of_le (by omega)]
        exact rfl
      go_wp2_with fail
      go_ret2
      exact ⟨by rw [he.out]; rfl, hb.out⟩
end Go.Proofs.YtiidhcpflplpiaaGreatDoor
