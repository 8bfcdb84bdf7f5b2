/-
  Texts laid into one (a claim has 60 files at most): Field, Six, CSmall, CPlace, CTab, CRange.
-/
import Derived.Test.YtoihekgmomjhpaaGreatDoorKC2
import Derived.Deep.QuietTactic
import Derived.BigQuiet
import Derived.WalkSmall
import Derived.Laws.ResultCell
/-
  The document's part and field (layer 4): whatever the text.
-/
namespace Go.Proofs.YtoihekgmomjhpaaGreatDoor
open Go.RowKit Crn
theorem split_count (c : UInt8) (l : Bytes) : (split c l).length ≤ l.length + 1 := by
  unfold split
  induction l with
  | nil => simp [splitP]
  | cons x l ih =>
    cases hx : x == c
    · rw [splitP_no (p := (· == c)) hx]
      cases hs : splitP (· == c) l with
      | nil => exact absurd hs (splitP_ne _ _)
      | cons y t =>
        rw [hs] at ih
        simp only [onto, List.length_cons] at ih ⊢
        omega
    · rw [splitP_yes (p := (· == c)) hx]
      simp only [List.length_cons]
      omega
theorem part_lt {f n : Nat} (hf : f < 5) {s : Bytes} (h : partN f s = some n) : n < 18446744073709551616 := by
  have hs := (okSet_iff.1 (part_ok hf h)).2
  have h1 : n ≤ every f 1 := by rw [← hs]; exact Nat.and_le_right
  have h2 := every_lt f hf
  have h3 : (2 : Nat) ^ 64 = 18446744073709551616 := by decide
  omega
end Go.Proofs.YtoihekgmomjhpaaGreatDoor

/-
  The document's ahead (layer 4): the sixth field.
-/
namespace Go.Proofs.YtoihekgmomjhpaaGreatDoor
open Go.RowKit Crn
/-- What ahead answers. -/
def answerZ (r : Option Int) : Ending := .returned (.tuple #[.int .i64 (r.getD 0), .bool r.isSome])
theorem ahead_short {l : Bytes} (h : ¬ l.length = 5) : aheadN l = none := by
  match l with
  | [] => rfl
  | [_] => rfl
  | [_, _] => rfl
  | [_, _, _] => rfl
  | [_, _, _, _] => rfl
  | [_, _, _, _, _] => simp at h
  | _ :: _ :: _ :: _ :: _ :: _ :: _ => rfl
def aheadXY (g : UInt8) (x y : Option Nat) : Option Int :=
  if g = 43 ∨ g = 45 then
    match x, y with
    | some h, some m => if h ≤ 14 ∧ m ≤ 59 then some (if g = 45 then -(60 * (h : Int)) - m else 60 * (h : Int) + m) else none
    | _, _ => none
  else none
theorem ahead_xy (g h1 h2 m1 m2 : UInt8) : aheadN [g, h1, h2, m1, m2] = aheadXY g (number [h1, h2]) (number [m1, m2]) := rfl
theorem aheadXY_left (g : UInt8) (y : Option Nat) : aheadXY g none y = none := by unfold aheadXY; split <;> rfl
theorem aheadXY_right (g : UInt8) (x : Option Nat) : aheadXY g x none = none := by unfold aheadXY; cases x <;> (split <;> rfl)
theorem aheadXY_big (g : UInt8) (a b : Nat) (h : ¬ (a ≤ 14 ∧ b ≤ 59)) : aheadXY g (some a) (some b) = none := by
  unfold aheadXY
  split
  · exact if_neg h
  · rfl
end Go.Proofs.YtoihekgmomjhpaaGreatDoor

/-
  The program's small and parseAhead (layer 4).
-/
set_option linter.unusedVariables false
namespace Go.Proofs.YtoihekgmomjhpaaGreatDoor
open Go.RowKit Crn
set_option maxRecDepth 100000 in
set_option maxHeartbeats 400000 in
theorem cSmall_any (s : ByteArray) (w : World) (hs : s.size ≤ 1000) :
    Calls Tryz.prog 229 #[.string s] w fun e w' => e = .returned (.string (bs (small s.data.toList))) ∧ Below w.heap.size w w' := by
  obtain ⟨cap, w5, hcv, b5, f5⟩ := bytes_of w s
  replace b5 := Lib.hid b5
  replace f5 := Lib.hid f5
  have hlen : s.data.toList.length = s.size := by simp
  go_enter Tryz.func229, Tryz.ntmps229
  go_wp2_with fail
  clear hcv
  go_loopw [10] (fun i wr => ∃ k : Nat, k ≤ s.size ∧ i = .int .i64 k ∧ Hid (Buf wr w.heap.size (mapTo small1 s.data.toList k)) ∧ Hid (Below w.heap.size w wr)) (fun i _ => s.size - (intOf i).toNat)
  case atStart => exact ⟨0, by omega, rfl, by rw [mapTo_zero]; exact f5, b5⟩
  case round =>
    obtain ⟨k, hk, rfl, hf, hb⟩ := hrel
    clear f5 b5
    by_cases hlt : k < s.size
    · have hl : k < s.data.toList.length := by omega
      have hc : wr.cell? ⟨w.heap.size, k, none⟩ = some (.int .u8 (s.data.toList[k].toNat : Nat)) := by
        have h1 : k < (mapTo small1 s.data.toList k).length := by rw [mapTo_len]; exact hl
        rw [hf.out.1 k h1, mapTo_get _ _ _ hl]
      have hz : wr.frozen? ⟨w.heap.size, k, none⟩ = false := hf.out.2 k (by rw [mapTo_len]; exact hl)
      have hset := Lib.hid (mapTo_set small1 s.data.toList k hl)
      have hsame := Lib.hid (mapTo_same small1 s.data.toList k hl)
      have hbig := Lib.hid (@small1_big s.data.toList[k])
      have hnot := Lib.hid (@small1_not s.data.toList[k])
      generalize s.data.toList[k] = x at *
      have hx := UInt8.toNat_lt x
      by_cases g1 : 65 ≤ x.toNat
      · by_cases g2 : x.toNat ≤ 90
        · have hv := Lib.hid (hbig.out g1 g2)
          go_wp2_with fail
          refine ⟨⟨k + 1, by omega, by go_num, ?_, hb.out.setCell (Nat.le_refl _) _⟩, by simp [intOf]; omega⟩
          rw [← hset.out]
          exact hf.out.set (by rw [mapTo_len]; exact hl) (small1 x) (by have := hv.out; omega)
        · have hn := Lib.hid (hsame.out (hnot.out (by omega)))
          go_wp2_with fail
          exact ⟨⟨k + 1, by omega, by go_num, by rw [hn.out]; exact hf, hb⟩, by simp [intOf]; omega⟩
      · have hn := Lib.hid (hsame.out (hnot.out (by omega)))
        go_wp2_with fail
        exact ⟨⟨k + 1, by omega, by go_num, by rw [hn.out]; exact hf, hb⟩, by simp [intOf]; omega⟩
    · have hcv := Buf.text hf.out s.size cap (by rw [mapTo_len]; omega)
      have he : Hid (mapTo small1 s.data.toList k = small s.data.toList) := by
        have : k = s.data.toList.length := by omega
        rw [this]
        exact mapTo_end small1 _
      go_wp2_with fail
      go_ret
      exact ⟨by rw [← he.out]; rfl, hb.out⟩
theorem ret_z {x y : Int} (h : x = y) : Ending.returned (.tuple #[.int .i64 x, .bool true]) = answerZ (some y) := by rw [h]; rfl
set_option maxRecDepth 100000 in
set_option maxHeartbeats 4000000 in
theorem parseAhead_any (s : ByteArray) (w : World) (_hs : s.size ≤ 1000) :
    Calls Tryz.prog 123 #[.string s] w fun e w' => e = answerZ (aheadN s.data.toList) ∧ w = w' := by
  by_cases h5 : s.size = 5
  · match hl : s.data.toList, (show s.data.toList.length = 5 by simpa using h5) with
    | [g, h1, h2, m1, m2], _ =>
      have hg : s[0].toNat = g.toNat := by
        have h0 : 0 < s.data.toList.length := by rw [hl]; simp
        have : s.data.toList[0] = g := by simp [hl]
        exact congrArg UInt8.toNat this
      have x1 : s.extract 1 3 = bs [h1, h2] := by rw [extract_bs, hl]; rfl
      have x2 : s.extract 3 5 = bs [m1, m2] := by rw [extract_bs, hl]; rfl
      rw [ahead_xy]
      have hl1 := Lib.hid (fun y => aheadXY_left g y)
      have hl2 := Lib.hid (fun x => aheadXY_right g x)
      have hbig := Lib.hid (fun a b => aheadXY_big g a b)
      have c1 := Lib.hid (parseNumber_any (bs [h1, h2]) w (by rw [bs_size]; simp))
      have c2 := Lib.hid (parseNumber_any (bs [m1, m2]) w (by rw [bs_size]; simp))
      rw [bs_toList] at c1 c2
      have z1 : orNone (number [h1, h2]) ≤ 99 := (orNone_bound [h1, h2]).2
      have z2 : orNone (number [m1, m2]) ≤ 99 := (orNone_bound [m1, m2]).2
      have e5 : ((s.size : Int) != 5) = false := by simp; omega
      by_cases hgs : g = 43 ∨ g = 45
      · have hgn : Hid (g = 43 ∨ g = 45) := hgs
        have hy : Hid (∀ a b : Nat, a ≤ 14 → b ≤ 59 → aheadXY g (some a) (some b) = some (if g = 45 then -(60 * (a : Int)) - b else 60 * (a : Int) + b)) := fun a b ha hb => by
          unfold aheadXY
          rw [if_pos hgs]
          simp only []
          rw [if_pos ⟨ha, hb⟩]
        generalize number [h1, h2] = na at *
        generalize number [m1, m2] = nb at *
        generalize bs [h1, h2] = A at *
        generalize bs [m1, m2] = B at *
        clear hl
        rcases hgs with rfl | rfl
        all_goals
          replace hg := (show _ = _ from hg)
          simp only [UInt8.reduceToNat] at hg
          cases na with
          | none =>
            have hr := Lib.hid (hl1.out nb)
            go_enter Tryz.func123, Tryz.ntmps123
            go_wp2_with fail
            (with_reducible refine c1.out.mono ?_)
            rintro e w' ⟨rfl, rfl⟩
            simp only [answerN]
            go_wp2_with fail
            (with_reducible refine c2.out.mono ?_)
            rintro e w' ⟨rfl, rfl⟩
            cases nb
            all_goals
              simp only [answerN]
              go_wp2_with fail
              go_ret2
              exact ⟨by rw [hr.out]; rfl, rfl⟩
          | some a =>
            simp only [orNone] at z1
            cases nb with
            | none =>
              have hr := Lib.hid (hl2.out (some a))
              go_enter Tryz.func123, Tryz.ntmps123
              go_wp2_with fail
              (with_reducible refine c1.out.mono ?_)
              rintro e w' ⟨rfl, rfl⟩
              simp only [answerN]
              go_wp2_with fail
              (with_reducible refine c2.out.mono ?_)
              rintro e w' ⟨rfl, rfl⟩
              simp only [answerN]
              go_wp2_with fail
              go_ret2
              exact ⟨by rw [hr.out]; rfl, rfl⟩
            | some b =>
              simp only [orNone] at z2
              by_cases ha : a ≤ 14
              · by_cases hb : b ≤ 59
                · have hr := Lib.hid (hy.out a b ha hb)
                  go_enter Tryz.func123, Tryz.ntmps123
                  go_wp2_with fail
                  (with_reducible refine c1.out.mono ?_)
                  rintro e w' ⟨rfl, rfl⟩
                  simp only [answerN]
                  go_wp2_with fail
                  (with_reducible refine c2.out.mono ?_)
                  rintro e w' ⟨rfl, rfl⟩
                  simp only [answerN]
                  go_wp2_with fail
                  go_ret2
                  refine ⟨?_, rfl⟩
                  rw [hr.out]
                  exact ret_z (by first | (rw [if_pos trivial]; omega) | (rw [if_neg (by decide)]; omega))
                · have hr := Lib.hid (hbig.out a b (by omega))
                  go_enter Tryz.func123, Tryz.ntmps123
                  go_wp2_with fail
                  (with_reducible refine c1.out.mono ?_)
                  rintro e w' ⟨rfl, rfl⟩
                  simp only [answerN]
                  go_wp2_with fail
                  (with_reducible refine c2.out.mono ?_)
                  rintro e w' ⟨rfl, rfl⟩
                  simp only [answerN]
                  go_wp2_with fail
                  go_ret2
                  exact ⟨by rw [hr.out]; rfl, rfl⟩
              · have hr := Lib.hid (hbig.out a b (by omega))
                go_enter Tryz.func123, Tryz.ntmps123
                go_wp2_with fail
                (with_reducible refine c1.out.mono ?_)
                rintro e w' ⟨rfl, rfl⟩
                simp only [answerN]
                go_wp2_with fail
                (with_reducible refine c2.out.mono ?_)
                rintro e w' ⟨rfl, rfl⟩
                simp only [answerN]
                go_wp2_with fail
                go_ret2
                exact ⟨by rw [hr.out]; rfl, rfl⟩
      · have hres : Hid (aheadXY g (number [h1, h2]) (number [m1, m2]) = none) := by
          unfold aheadXY
          exact if_neg hgs
        have e43 : ((g.toNat : Int) != 43) = true := bne_iff_ne.2 (fun e => hgs (Or.inl (UInt8.toNat_inj.1 (by simp; omega))))
        have e45 : ((g.toNat : Int) != 45) = true := bne_iff_ne.2 (fun e => hgs (Or.inr (UInt8.toNat_inj.1 (by simp; omega))))
        clear hgs
        go_enter Tryz.func123, Tryz.ntmps123
        go_wp2_with fail
        go_ret2
        exact ⟨by rw [hres.out]; rfl, rfl⟩
  · have hr := Lib.hid (ahead_short (l := s.data.toList) (by simpa using h5))
    have e5 : ((s.size : Int) != 5) = true := by simp; omega
    clear h5
    go_enter Tryz.func123, Tryz.ntmps123
    go_wp2_with fail
    go_ret2
    exact ⟨by rw [hr.out]; rfl, rfl⟩
end Go.Proofs.YtoihekgmomjhpaaGreatDoor

/-
  The program's parsePlace (layer 4): a place, told by its number or by its name.
-/
set_option linter.unusedVariables false
namespace Go.Proofs.YtoihekgmomjhpaaGreatDoor
open Go.RowKit Crn
def fieldV (f : Nat) (m : Value) : Value := .agg #[.int .i64 (low f : Nat), .int .i64 (high f : Nat), m]
/-- What parsePlace answers: whether it is a place; if so, its number. -/
def PlaceSaid (f : Nat) (s : Bytes) (e : Ending) : Prop :=
  ∃ v : Nat, v ≤ 99 ∧ (∀ n, place f s = some n → v = n) ∧ e = .returned (.tuple #[.int .i64 v, .bool (place f s).isSome])
theorem small_len (s : Bytes) : (small s).length = s.length := by simp [small]
theorem find_number {f n : Nat} {s : Bytes} (hf : f < 5) (h : number s = some n) : find (small s) 0 (names f) = none := by
  have hl : s.length ≤ 2 := by
    match s, h with
    | [], h => cases h
    | [a], _ => simp
    | [a, b], _ => simp
    | _ :: _ :: _ :: _, h => cases h
  have h3 : ∀ f, f < 5 → ∀ n ∈ names f, n.length = 3 := by decide +kernel
  have key : ∀ (l : List Bytes) (k : Nat), (∀ n ∈ l, n.length = 3) → find (small s) k l = none := by
    intro l
    induction l with
    | nil => intro k _; rfl
    | cons m r ih =>
      intro k hm
      unfold find
      rw [if_neg (fun e => by have := hm m (by simp); rw [← e, small_len] at this; omega), ih (k + 1) (fun n hn => hm n (by simp [hn]))]
  exact key _ 0 (h3 f hf)
theorem place_number {f n : Nat} {s : Bytes} (hf : f < 5) (h : number s = some n) : place f s = if low f ≤ n ∧ n ≤ high f then some n else none := by
  unfold place
  rw [find_number hf h, h]
theorem place_name {f : Nat} {s : Bytes} (h : number s = none) : place f s = (find (small s) 0 (names f)).map (low f + ·) := by
  unfold place
  rw [h]
  cases find (small s) 0 (names f) <;> rfl
theorem some_if {p : Prop} [Decidable p] {n : Nat} : (if p then some n else none).isSome = decide p := by
  split <;> simp_all
theorem NamesAt.drew {w : World} {m : Value} {f : Nat} (h : NamesAt w m f) : NamesAt w.drew m f := h
theorem low_high : ∀ f, f < 5 → low f ≤ 1 ∧ high f ≤ 59 ∧ low f ≤ high f := by decide
theorem place_le {f n : Nat} {s : Bytes} (hf : f < 5) (h : place f s = some n) : n ≤ 59 := by
  have := place_range hf h
  have := low_high f hf
  omega
set_option maxRecDepth 100000 in
set_option maxHeartbeats 1000000 in
theorem parsePlace_any (f : Nat) (m : Value) (s : ByteArray) (w : World) (hf : f < 5) (hs : s.size ≤ 1000) (hN : NamesAt w m f) :
    Calls Tryz.prog 222 #[fieldV f m, .string s] w fun e w' => PlaceSaid f s.data.toList e ∧ Below w.heap.size w w' := by
  obtain ⟨l1, l2, l3⟩ := low_high f hf
  have cn := Lib.hid (fun W => parseNumber_any s W hs)
  unfold fieldV
  cases hn : number s.data.toList with
  | some n =>
    rw [hn] at cn
    simp only [answerN] at cn
    have hp := Lib.hid (place_number hf hn)
    have hle := number_le hn
    have ch := Lib.hid (fun W => spanHas_any (low f) (high f) n W (by omega) (by omega) (by omega))
    simp only [spanV] at ch
    clear hn hN
    generalize low f = lo at *
    generalize high f = hi at *
    obtain ⟨q, hq⟩ : ∃ q, decide (lo ≤ n ∧ n ≤ hi) = q := ⟨_, rfl⟩
    rw [hq] at ch
    replace hq := Lib.hid hq
    go_enter Tryz.func222, Tryz.ntmps222
    go_wp2_with fail
    refine (cn.out _).mono ?_
    rintro e w' ⟨rfl, rfl⟩
    go_wp2_with fail
    refine (ch.out _).mono ?_
    rintro e w2 ⟨rfl, k2⟩
    replace k2 := Lib.hid k2
    go_wp2_with fail
    go_ret2
    refine ⟨⟨n, hle, fun q hq => ?_, ?_⟩, ((Below.refl w.heap.size w).alloc (Nat.le_refl _) _).trans (k2.out.mono (by simp))⟩
    · rw [hp.out] at hq
      split at hq
      · exact Option.some.inj hq
      · cases hq
    · rw [hp.out, some_if, hq.out]
      rfl
  | none =>
    rw [hn] at cn
    simp only [answerN] at cn
    have hp := Lib.hid (place_name (f := f) hn)
    have hle := Lib.hid (fun q (h : place f s.data.toList = some q) => place_le hf h)
    have cs := Lib.hid (fun W => cSmall_any s W hs)
    have hL : Hid (∀ W, NamesAt W m f → (Instr.lookup 241 m (.string (bs (small s.data.toList))) true).run Tryz.prog W = .ok (lookAns ((find (small s.data.toList) 0 (names f)).map (low f + ·))) W) := fun W h => h.run hf _ (by rw [small_len]; simpa using hs)
    rw [← hp.out] at hL
    clear hp hn
    unfold PlaceSaid
    generalize place f s.data.toList = r at *
    simp only [lookAns] at hL
    obtain ⟨v, hv⟩ : ∃ v, r.getD 0 = v := ⟨_, rfl⟩
    obtain ⟨o, ho⟩ : ∃ o, r.isSome = o := ⟨_, rfl⟩
    rw [hv, ho] at hL
    have hfin : Hid (v ≤ 99 ∧ ∀ n, r = some n → v = n) := by
      cases r with
      | none => exact ⟨by rw [← hv]; exact Nat.zero_le _, fun n h => by cases h⟩
      | some x => exact ⟨by rw [← hv]; have := hle.out x rfl; simp only [Option.getD_some]; omega, fun n h => by rw [← hv]; exact Option.some.inj h⟩
    replace ho := Lib.hid ho
    clear hv hle
    generalize bs (small s.data.toList) = S at *
    generalize low f = lo at *
    generalize high f = hi at *
    replace hN := Lib.hid hN
    go_enter Tryz.func222, Tryz.ntmps222
    go_wp2_with fail
    refine (cn.out _).mono ?_
    rintro e w' ⟨rfl, rfl⟩
    go_wp2_with fail
    have hc : (w.alloc (.cells #[.int .i64 lo, .int .i64 hi, m] 243)).cell? ⟨w.heap.size, 2, none⟩ = some m := by rw [World.cell?_alloc_new]; rfl
    have hz : w.heap.size < (w.alloc (.cells #[.int .i64 lo, .int .i64 hi, m] 243)).heap.size := by simp
    have hN1 := Lib.hid (hN.out.below ((Below.refl w.heap.size w).alloc (Nat.le_refl _) (.cells #[.int .i64 lo, .int .i64 hi, m] 243)) (Nat.le_refl _))
    have b1 := Lib.hid ((Below.refl w.heap.size w).alloc (Nat.le_refl _) (.cells #[.int .i64 lo, .int .i64 hi, m] 243))
    have hsz : w.heap.size ≤ (w.alloc (.cells #[.int .i64 lo, .int .i64 hi, m] 243)).heap.size := by simp
    generalize w.alloc (.cells #[.int .i64 lo, .int .i64 hi, m] 243) = w1 at *
    go_region_held3 (fun w' => w'.cell? ⟨w.heap.size, 2, none⟩ = some m) (first | exact hc6 | go_keep)
      (first
        | (go_at_call 229; refine (cs.out _).mono ?_; rintro e w6 ⟨rfl, k6⟩; have hc6 := (k6.cell (p := ⟨w.heap.size, 2, none⟩) hz).trans hc; have hl6 := hL.out w6 (hN1.out.drew.below k6 (Nat.le_refl _)); replace k6 := Lib.hid k6))
    go_wp2_with fail
    go_ret2
    exact ⟨⟨v, hfin.out.1, hfin.out.2, by rw [ho.out]; rfl⟩, b1.out.drew.trans (k6.out.mono hsz)⟩
end Go.Proofs.YtoihekgmomjhpaaGreatDoor

/-
  The table of the fields' numbers as it lies in the world, and the contracts of Cut, Split and HasPrefix in plain words (layer 4).
-/
set_option linter.unusedVariables false
namespace Go.Proofs.YtoihekgmomjhpaaGreatDoor
open Go.RowKit Crn
/-- The table cron.spans lies in the world; so does some number in internal/bytealg.MaxLen. -/
structure Tab (w : World) : Prop where
  spans : ∀ f, f < 5 → w.cell? ⟨1, 2 * f, none⟩ = some (.int .i64 (low f : Nat)) ∧ w.cell? ⟨1, 2 * f + 1, none⟩ = some (.int .i64 (top f : Nat))
  most : ∃ m, w.cell? ⟨3, 0, none⟩ = some (.int .i64 m)
  size : max 1 3 < w.heap.size
theorem Tab.below {w w' : World} (t : Tab w) (h : Below w.heap.size w w') : Tab w' := by
  have h0 : 1 < w.heap.size := by have := t.size; omega
  have h1 : 3 < w.heap.size := by have := t.size; omega
  refine ⟨fun f hf => ?_, ?_, Nat.lt_of_lt_of_le t.size h.size⟩
  · obtain ⟨a, b⟩ := t.spans f hf
    exact ⟨(h.cell (p := ⟨1, 2 * f, none⟩) h0).trans a, (h.cell (p := ⟨1, 2 * f + 1, none⟩) h0).trans b⟩
  · obtain ⟨m, hm⟩ := t.most
    exact ⟨m, (h.cell (p := ⟨3, 0, none⟩) h1).trans hm⟩
theorem Tab.alloc {w : World} (t : Tab w) (o : Obj) : Tab (w.alloc o) := t.below ((Below.refl _ _).alloc (Nat.le_refl _) o)
theorem cut_any (s : ByteArray) (c : UInt8) (w : World) (t : Tab w) (hs : s.size ≤ 1000) :
    Calls Tryz.prog 208 #[.string s, .string ⟨#[c]⟩] w fun e w' => e = .returned (.tuple #[.string (bs (Lib.cut s.data.toList [c]).1), .string (bs (Lib.cut s.data.toList [c]).2.1), .bool (Lib.cut s.data.toList [c]).2.2]) ∧ Below w.heap.size w w' := by
  obtain ⟨m, hm⟩ := t.most
  refine (Tryz.strings_Cut s ⟨#[c]⟩ m w (by omega) hm).mono ?_
  rintro e w' ⟨rfl, n, rfl⟩
  exact ⟨rfl, below_drewN (Below.refl _ _) n⟩
theorem split2_any (s : ByteArray) (c : UInt8) (w : World) (t : Tab w) (hs : s.size ≤ 1000) :
    Calls Tryz.prog 186 #[.string s, .string ⟨#[c]⟩] w fun e w' => (∃ v, e = .returned v ∧ Strs w' v (split c s.data.toList)) ∧ Below w.heap.size w w' := by
  obtain ⟨m, hm⟩ := t.most
  have hl : (Lib.splitB ⟨#[c]⟩ 0 (Lib.countB s ⟨#[c]⟩) s).length = Lib.countB s ⟨#[c]⟩ + 1 := Lib.splitB_all ⟨#[c]⟩ (Nat.le_refl 1) 0 _ s rfl
  have hd := Crn.splitB_all c s
  refine (Tryz.strings_Split s ⟨#[c]⟩ m w (by omega) hm (Nat.le_refl 1)).mono ?_
  rintro e w' ⟨rfl, rfl⟩
  generalize Lib.splitB ⟨#[c]⟩ 0 (Lib.countB s ⟨#[c]⟩) s = L at *
  refine ⟨⟨_, rfl, w.heap.size, L.length, ?_, fun i hi => ?_⟩, (Below.refl _ _).alloc (Nat.le_refl _) _⟩
  · rw [← hd, List.length_map, hl]
  · have hi' : i < L.length := by rw [← hd, List.length_map] at hi; exact hi
    have e : (split c s.data.toList)[i] = L[i].data.toList := by simp [← hd]
    rw [World.cell?_alloc_new, e, bs_list]
    simp [hi']
theorem isAny_any (s : ByteArray) (w : World) :
    Calls Tryz.prog 160 #[.string s] w fun e w' => e = .returned (.bool (s.data.toList.head? == some 42)) ∧ w = w' := by
  have c := Lib.hid (Tryz.strings_HasPrefix s ⟨#[42]⟩ w)
  have hp := Lib.hid (prefix_star s.data.toList)
  obtain ⟨q, hq⟩ : ∃ q, Lib.hasPrefix s.data.toList (⟨#[42]⟩ : ByteArray).data.toList = q := ⟨_, rfl⟩
  rw [hq] at c
  rw [← hp.out]
  obtain rfl : Lib.hasPrefix s.data.toList [42] = q := hq
  go_enter Tryz.func160, Tryz.ntmps160
  go_wp2_with fail
  refine c.out.mono ?_
  rintro e w' ⟨rfl, rfl⟩
  go_wp2_with fail
  go_ret
  exact ⟨rfl, rfl⟩
end Go.Proofs.YtoihekgmomjhpaaGreatDoor

/-
  The program's parseRange (layer 4): the places that are told one by one.
-/
set_option linter.unusedVariables false
namespace Go.Proofs.YtoihekgmomjhpaaGreatDoor
open Go.RowKit Crn
/-- The field, and the span that comes back, as they lie while parseRange runs. -/
structure Rng (w wr : World) (lo hi : Nat) (m : Value) (f : Nat) : Prop where
  c0 : wr.cell? ⟨w.heap.size, 0, none⟩ = some (.int .i64 lo)
  c1 : wr.cell? ⟨w.heap.size, 1, none⟩ = some (.int .i64 hi)
  c2 : wr.cell? ⟨w.heap.size, 2, none⟩ = some m
  r0 : wr.cell? ⟨w.heap.size + 1, 0, none⟩ = some (.int .i64 0)
  r1 : wr.cell? ⟨w.heap.size + 1, 1, none⟩ = some (.int .i64 0)
  z0 : wr.frozen? ⟨w.heap.size + 1, 0, none⟩ = false
  z1 : wr.frozen? ⟨w.heap.size + 1, 1, none⟩ = false
  size : w.heap.size + 2 ≤ wr.heap.size
  below : Below w.heap.size w wr
  names : NamesAt wr m f
  tab : Tab wr
theorem Rng.step {w wr w' : World} {lo hi f : Nat} {m : Value} (h : Rng w wr lo hi m f) (k : Below wr.heap.size wr w') : Rng w w' lo hi m f := by
  have s0 : w.heap.size < wr.heap.size := by have := h.size; omega
  have s1 : w.heap.size + 1 < wr.heap.size := by have := h.size; omega
  exact ⟨(k.cell (p := ⟨w.heap.size, 0, none⟩) s0).trans h.c0, (k.cell (p := ⟨w.heap.size, 1, none⟩) s0).trans h.c1, (k.cell (p := ⟨w.heap.size, 2, none⟩) s0).trans h.c2,
    (k.cell (p := ⟨w.heap.size + 1, 0, none⟩) s1).trans h.r0, (k.cell (p := ⟨w.heap.size + 1, 1, none⟩) s1).trans h.r1,
    (k.frozen (p := ⟨w.heap.size + 1, 0, none⟩) s1).trans h.z0, (k.frozen (p := ⟨w.heap.size + 1, 1, none⟩) s1).trans h.z1,
    Nat.le_trans h.size k.size, h.below.trans (k.mono (Nat.le_trans (Nat.le_add_right _ 2) h.size)), h.names.below k (Nat.le_refl _), h.tab.below k⟩
theorem frozen_new (w : World) (cs : Array Value) (t : TypeId) (o : Nat) : (w.alloc (.cells cs t)).frozen? ⟨w.heap.size, o, none⟩ = false := by
  rw [frozen?_alloc_cells]; simp [World.frozen?]
theorem Rng.start (w : World) (lo hi f : Nat) (m : Value) (t : Tab w) (hN : NamesAt w m f) :
    Rng w ((w.alloc (.cells #[.int .i64 lo, .int .i64 hi, m] 243)).alloc (.cells #[.int .i64 0, .int .i64 0] 240)) lo hi m f := by
  have b1 : Below w.heap.size w (w.alloc (.cells #[.int .i64 lo, .int .i64 hi, m] 243)) := (Below.refl _ _).alloc (Nat.le_refl _) _
  have b2 : Below w.heap.size w ((w.alloc (.cells #[.int .i64 lo, .int .i64 hi, m] 243)).alloc (.cells #[.int .i64 0, .int .i64 0] 240)) := b1.alloc b1.size _
  have old : ∀ o : Nat, ((w.alloc (.cells #[.int .i64 lo, .int .i64 hi, m] 243)).alloc (.cells #[.int .i64 0, .int .i64 0] 240)).cell? ⟨w.heap.size, o, none⟩ = (w.alloc (.cells #[.int .i64 lo, .int .i64 hi, m] 243)).cell? ⟨w.heap.size, o, none⟩ := fun o =>
    Below.cell (B := (w.alloc (.cells #[.int .i64 lo, .int .i64 hi, m] 243)).heap.size) ((Below.refl _ _).alloc (Nat.le_refl _) _) (p := ⟨w.heap.size, o, none⟩) (by simp)
  have hz : (w.alloc (.cells #[.int .i64 lo, .int .i64 hi, m] 243)).heap.size = w.heap.size + 1 := by simp
  refine ⟨?_, ?_, ?_, ?_, ?_, ?_, ?_, by simp, b2, hN.below b2 (Nat.le_refl _), t.below b2⟩
  · rw [old, World.cell?_alloc_new]; rfl
  · rw [old, World.cell?_alloc_new]; rfl
  · rw [old, World.cell?_alloc_new]; rfl
  · rw [← hz, World.cell?_alloc_new]; rfl
  · rw [← hz, World.cell?_alloc_new]; rfl
  · rw [← hz]; exact frozen_new _ _ _ _
  · rw [← hz]; exact frozen_new _ _ _ _
/-- What parseRange answers. -/
def RangeSaid (f : Nat) (p : Bytes) (t : Bool) (e : Ending) : Prop :=
  ∃ a b : Nat, a ≤ 99 ∧ b ≤ 99 ∧ (∀ x y, rangeU f p t = some (x, y) → a = x ∧ b = y) ∧ e = .returned (.tuple #[spanV a b, .bool (rangeU f p t).isSome])
theorem below_two {B : Nat} {w w' : World} (h : Below B w w') (b : Nat) (hb : B ≤ b) (v0 v1 : Value) : Below B w ((w'.setCell ⟨b, 0, none⟩ v0).setCell ⟨b, 1, none⟩ v1) := (h.setCell hb v0).setCell hb v1
set_option maxRecDepth 100000 in
set_option maxHeartbeats 2000000 in
theorem parseRange_any (f : Nat) (m : Value) (s : ByteArray) (t : Bool) (w : World) (hf : f < 5) (hs : s.size ≤ 1000) (tb : Tab w) (hN : NamesAt w m f) :
    Calls Tryz.prog 209 #[fieldV f m, .string s, .bool t] w fun e w' => RangeSaid f s.data.toList t e ∧ Below w.heap.size w w' := by
  have hR := Lib.hid (Rng.start w (low f) (high f) f m tb hN)
  have Cc : Hid (∀ W, Tab W → Calls Tryz.prog 208 #[.string s, .string ⟨#[45]⟩] W fun e w' => e = .returned (.tuple #[.string (bs (Lib.cut s.data.toList [45]).1), .string (bs (Lib.cut s.data.toList [45]).2.1), .bool (Lib.cut s.data.toList [45]).2.2]) ∧ Below W.heap.size W w') := fun W h => cut_any s 45 W h hs
  have Cp : Hid (∀ (q : ByteArray) W, q.size ≤ 1000 → NamesAt W m f → Calls Tryz.prog 222 #[fieldV f m, .string q] W fun e w' => PlaceSaid f q.data.toList e ∧ Below W.heap.size W w') := fun q W h1 h2 => parsePlace_any f m q W hf h1 h2
  rcases first_of (c := 45) (s := s.data.toList) with h | ⟨x, y, e, h⟩
  · have hU : Hid (rangeU f s.data.toList t = match place f s.data.toList with
        | some x => if t then none else some (x, x)
        | none => none) := by
      unfold Hid rangeU
      rw [cut_none h]
      simp only [Bool.false_eq_true, if_false]
      cases place f s.data.toList <;> rfl
    rw [cut_none h] at Cc
    simp only [] at Cc
    clear h
    unfold fieldV at Cp ⊢
    generalize low f = lo at *
    generalize high f = hi at *
    clear tb hN
    go_enter Tryz.func209, Tryz.ntmps209
    go_wp2_with fail
    refine (Cc.out _ hR.out.tab).mono ?_
    rintro e w3 ⟨rfl, k3⟩
    replace hR := Lib.hid (hR.out.step k3)
    clear k3 Cc
    obtain ⟨q0, q1, q2, q3, q4, q5, q6, q7, _, _, _⟩ := hR.out
    go_wp2_with fail
    refine (Cp.out s _ hs hR.out.names).mono ?_
    rintro e w4 ⟨⟨v, v1, v2, rfl⟩, k4⟩
    clear q0 q1 q2 q3 q4 q5 q6 q7
    replace hR := Lib.hid (hR.out.step k4)
    clear k4
    replace v2 := Lib.hid v2
    obtain ⟨q0, q1, q2, q3, q4, q5, q6, q7, _, _, _⟩ := hR.out
    generalize hp : place f s.data.toList = r at *
    clear hp
    cases r with
    | none =>
      simp only [Option.isSome_none]
      go_wp2_with fail
      refine bodyPost_ret (v := .tuple #[spanV v v, .bool false]) ?_ rfl ?_
      · rw [results_cell_tmp rfl]
        go_simp
        rfl
      · exact ⟨⟨v, v, v1, v1, fun _ _ h => (by rw [hU.out] at h; cases h), by rw [hU.out]; rfl⟩, below_two hR.out.below _ (by omega) _ _⟩
    | some n =>
      simp only [Option.isSome_some]
      obtain rfl := v2.out n rfl
      clear v2
      cases t
      · go_wp2_with fail
        refine bodyPost_ret (v := .tuple #[spanV v v, .bool true]) ?_ rfl ?_
        · rw [results_cell_tmp rfl]
          go_simp
          rfl
        · exact ⟨⟨v, v, v1, v1, fun _ _ h => (by rw [hU.out] at h; cases h; exact ⟨rfl, rfl⟩), by rw [hU.out]; rfl⟩, below_two hR.out.below _ (by omega) _ _⟩
      · go_wp2_with fail
        refine bodyPost_ret (v := .tuple #[spanV v v, .bool false]) ?_ rfl ?_
        · rw [results_cell_tmp rfl]
          go_simp
          rfl
        · exact ⟨⟨v, v, v1, v1, fun _ _ h => (by rw [hU.out] at h; cases h), by rw [hU.out]; rfl⟩, below_two hR.out.below _ (by omega) _ _⟩
  · have hx : (bs x).size ≤ 1000 := by
      rw [bs_size]
      have := congrArg List.length e
      simp at this
      omega
    have hy : (bs y).size ≤ 1000 := by
      rw [bs_size]
      have := congrArg List.length e
      simp at this
      omega
    have hU : Hid (rangeU f s.data.toList t = match place f x, place f y with
        | some a, some b => if a ≤ b then some (a, b) else none
        | _, _ => none) := by
      unfold Hid rangeU
      rw [e, cut_at h]
      simp only [if_true]
      cases place f x <;> cases place f y <;> rfl
    rw [e, cut_at h] at Cc
    simp only [] at Cc
    clear h e
    unfold fieldV at Cp ⊢
    generalize low f = lo at *
    generalize high f = hi at *
    clear tb hN
    go_enter Tryz.func209, Tryz.ntmps209
    go_wp2_with fail
    refine (Cc.out _ hR.out.tab).mono ?_
    rintro e w3 ⟨rfl, k3⟩
    replace hR := Lib.hid (hR.out.step k3)
    clear k3 Cc
    obtain ⟨q0, q1, q2, q3, q4, q5, q6, q7, _, _, _⟩ := hR.out
    go_wp2_with fail
    refine (Cp.out (bs x) _ hx hR.out.names).mono ?_
    rintro e w4 ⟨⟨v, v1, v2, rfl⟩, k4⟩
    clear q0 q1 q2 q3 q4 q5 q6 q7
    replace hR := Lib.hid (hR.out.step k4)
    clear k4
    replace v2 := Lib.hid v2
    obtain ⟨q0, q1, q2, q3, q4, q5, q6, q7, _, _, _⟩ := hR.out
    rw [bs_toList] at v2 ⊢
    go_wp2_with fail
    refine (Cp.out (bs y) _ hy hR.out.names).mono ?_
    rintro e w5 ⟨⟨u, u1, u2, rfl⟩, k5⟩
    clear q0 q1 q2 q3 q4 q5 q6 q7
    replace hR := Lib.hid (hR.out.step k5)
    clear k5
    replace u2 := Lib.hid u2
    obtain ⟨q0, q1, q2, q3, q4, q5, q6, q7, _, _, _⟩ := hR.out
    rw [bs_toList] at u2 ⊢
    generalize hp : place f x = r at *
    generalize hq : place f y = r' at *
    clear hp hq
    cases r with
    | none =>
      simp only [Option.isSome_none]
      go_wp2_with fail
      refine bodyPost_ret (v := .tuple #[spanV v u, .bool false]) ?_ rfl ?_
      · rw [results_cell_tmp rfl]
        go_simp
        rfl
      · exact ⟨⟨v, u, v1, u1, fun _ _ h => (by rw [hU.out] at h; cases h), by rw [hU.out]; rfl⟩, below_two hR.out.below _ (by omega) _ _⟩
    | some n =>
      simp only [Option.isSome_some]
      obtain rfl := v2.out n rfl
      clear v2
      cases r' with
      | none =>
        simp only [Option.isSome_none]
        go_wp2_with fail
        refine bodyPost_ret (v := .tuple #[spanV v u, .bool false]) ?_ rfl ?_
        · rw [results_cell_tmp rfl]
          go_simp
          rfl
        · exact ⟨⟨v, u, v1, u1, fun _ _ h => (by rw [hU.out] at h; cases h), by rw [hU.out]; rfl⟩, below_two hR.out.below _ (by omega) _ _⟩
      | some n' =>
        simp only [Option.isSome_some]
        obtain rfl := u2.out n' rfl
        clear u2
        by_cases hle : v ≤ u
        · go_wp2_with fail
          refine bodyPost_ret (v := .tuple #[spanV v u, .bool true]) ?_ rfl ?_
          · rw [results_cell_tmp rfl]
            go_simp
            rfl
          · refine ⟨⟨v, u, v1, u1, fun _ _ h => ?_, ?_⟩, below_two hR.out.below _ (by omega) _ _⟩
            · rw [hU.out] at h; rw [if_pos hle] at h; cases h; exact ⟨rfl, rfl⟩
            · rw [hU.out]; rw [if_pos hle]; rfl
        · go_wp2_with fail
          refine bodyPost_ret (v := .tuple #[spanV v u, .bool false]) ?_ rfl ?_
          · rw [results_cell_tmp rfl]
            go_simp
            rfl
          · refine ⟨⟨v, u, v1, u1, fun _ _ h => ?_, ?_⟩, below_two hR.out.below _ (by omega) _ _⟩
            · rw [hU.out] at h; rw [if_neg hle] at h; cases h
            · rw [hU.out]; rw [if_neg hle]; rfl
end Go.Proofs.YtoihekgmomjhpaaGreatDoor
