/-
  The document's names, small and place (layer 4): a number of a field, or a name.
-/
import Derived.Test.YtiidhcpflplpiaaGreatDoorBuf
import Derived.Deep.RegionHeld3
namespace Go.Proofs.YtiidhcpflplpiaaGreatDoor
open Go.RowKit Crn

/-- A slice of names, or none. -/
def Names (w : World) (v : Value) (l : List Bytes) : Prop :=
  ∃ p cap, v = .slice p l.length cap ∧ ∀ i (h : i < l.length), ∃ b, p = some ⟨b, 0, none⟩ ∧ w.cell? ⟨b, i, none⟩ = some (.string (bs l[i]))

theorem names_any (f : Nat) (w : World) (hf : f < 5) :
    Calls Tryz.prog 111 #[.int .i64 f] w fun e w' => (∃ v, e = .returned v ∧ Names w' v (names f)) ∧ Below w.heap.size w w' := by
  have : f = 0 ∨ f = 1 ∨ f = 2 ∨ f = 3 ∨ f = 4 := by omega
  rcases this with rfl | rfl | rfl | rfl | rfl
  · go_enter Tryz.func111, Tryz.ntmps111
    go_wp2
    go_ret
    exact ⟨⟨_, rfl, none, 0, rfl, fun i h => by cases h⟩, Below.refl _ _⟩
  · go_enter Tryz.func111, Tryz.ntmps111
    go_wp2
    go_ret
    exact ⟨⟨_, rfl, none, 0, rfl, fun i h => by cases h⟩, Below.refl _ _⟩
  · go_enter Tryz.func111, Tryz.ntmps111
    go_wp2
    go_ret
    exact ⟨⟨_, rfl, none, 0, rfl, fun i h => by cases h⟩, Below.refl _ _⟩
  · go_enter Tryz.func111, Tryz.ntmps111
    go_wp2
    go_ret
    refine ⟨⟨_, rfl, some ⟨w.heap.size, 0, none⟩, 12, rfl, fun i hi => ⟨w.heap.size, rfl, ?_⟩⟩, (Below.refl _ _).alloc (Nat.le_refl _) _⟩
    rw [World.cell?_alloc_new]
    have : ∀ i (h : i < (names 3).length), (#[Value.string ⟨#[106, 97, 110]⟩, .string ⟨#[102, 101, 98]⟩, .string ⟨#[109, 97, 114]⟩, .string ⟨#[97, 112, 114]⟩, .string ⟨#[109, 97, 121]⟩, .string ⟨#[106, 117, 110]⟩, .string ⟨#[106, 117, 108]⟩, .string ⟨#[97, 117, 103]⟩, .string ⟨#[115, 101, 112]⟩, .string ⟨#[111, 99, 116]⟩, .string ⟨#[110, 111, 118]⟩, .string ⟨#[100, 101, 99]⟩] : Array Value)[i]? = some (.string (bs (names 3)[i])) := by
      intro i h
      have : i < 12 := h
      match i, h with
      | 0, _ => rfl
      | 1, _ => rfl
      | 2, _ => rfl
      | 3, _ => rfl
      | 4, _ => rfl
      | 5, _ => rfl
      | 6, _ => rfl
      | 7, _ => rfl
      | 8, _ => rfl
      | 9, _ => rfl
      | 10, _ => rfl
      | 11, _ => rfl
    exact this i hi
  · go_enter Tryz.func111, Tryz.ntmps111
    go_wp2
    go_ret
    refine ⟨⟨_, rfl, some ⟨w.heap.size, 0, none⟩, 7, rfl, fun i hi => ⟨w.heap.size, rfl, ?_⟩⟩, (Below.refl _ _).alloc (Nat.le_refl _) _⟩
    rw [World.cell?_alloc_new]
    have : ∀ i (h : i < (names 4).length), (#[Value.string ⟨#[115, 117, 110]⟩, .string ⟨#[109, 111, 110]⟩, .string ⟨#[116, 117, 101]⟩, .string ⟨#[119, 101, 100]⟩, .string ⟨#[116, 104, 117]⟩, .string ⟨#[102, 114, 105]⟩, .string ⟨#[115, 97, 116]⟩] : Array Value)[i]? = some (.string (bs (names 4)[i])) := by
      intro i h
      have : i < 7 := h
      match i, h with
      | 0, _ => rfl
      | 1, _ => rfl
      | 2, _ => rfl
      | 3, _ => rfl
      | 4, _ => rfl
      | 5, _ => rfl
      | 6, _ => rfl
    exact this i hi

theorem small1_big {b : UInt8} (h1 : 65 ≤ b.toNat) (h2 : b.toNat ≤ 90) : (b.toNat : Int) + 32 = ((small1 b).toNat : Nat) := by
  have h : 65 ≤ b ∧ b ≤ 90 := ⟨UInt8.le_iff_toNat_le.2 (by simpa using h1), UInt8.le_iff_toNat_le.2 (by simpa using h2)⟩
  unfold small1
  rw [if_pos h, UInt8.toNat_add]
  simp
  omega
theorem small1_not {b : UInt8} (h : ¬ (65 ≤ b.toNat ∧ b.toNat ≤ 90)) : small1 b = b := by
  unfold small1
  rw [if_neg (fun e => h ⟨by simpa using UInt8.le_iff_toNat_le.1 e.1, by simpa using UInt8.le_iff_toNat_le.1 e.2⟩)]

set_option maxRecDepth 100000 in
set_option maxHeartbeats 400000 in
theorem small_any (s : ByteArray) (w : World) (hs : s.size ≤ 1000) :
    Calls Tryz.prog 112 #[.string s] w fun e w' => e = .returned (.string (bs (small s.data.toList))) ∧ Below w.heap.size w w' := by
  obtain ⟨cap, w5, hcv, b5, f5⟩ := bytes_of w s
  replace b5 := Lib.hid b5
  replace f5 := Lib.hid f5
  have hlen : s.data.toList.length = s.size := by simp
  go_enter Tryz.func112, Tryz.ntmps112
  go_wp2_with fail
  clear hcv
  go_loopw [4] (fun i wr => ∃ k : Nat, k ≤ s.size ∧ i = .int .i64 k ∧ Hid (Buf wr w.heap.size (mapTo small1 s.data.toList k)) ∧ Hid (Below w.heap.size w wr)) (fun i _ => s.size - (intOf i).toNat)
  case atStart => exact ⟨0, by omega, rfl, by rw [mapTo_zero]; exact f5, b5⟩
  case round =>
    obtain ⟨k, hk, rfl, hf, hb⟩ := hrel
    clear f5 b5
    by_cases hlt : k < s.size
    · have hl : k < s.data.toList.length := by omega
      have hc : wr.cell? ⟨w.heap.size, k, none⟩ = some (.int .u8 (s.data.toList[k].toNat : Nat)) := by
        have h1 : k < (mapTo small1 s.data.toList k).length := by rw [mapTo_len]; exact hl
        rw [hf.out.1 k h1, mapTo_get _ _ _ hl]
      have hz : wr.frozen? ⟨w.heap.size, k, none⟩ = false := hf.out.2 k (by rw [mapTo_len]; exact hl)
      have hset := Lib.hid (mapTo_set small1 s.data.toList k hl)
      have hsame := Lib.hid (mapTo_same small1 s.data.toList k hl)
      have hbig := Lib.hid (@small1_big s.data.toList[k])
      have hnot := Lib.hid (@small1_not s.data.toList[k])
      generalize s.data.toList[k] = x at *
      have hx := UInt8.toNat_lt x
      by_cases g1 : 65 ≤ x.toNat
      · by_cases g2 : x.toNat ≤ 90
        · have hv := Lib.hid (hbig.out g1 g2)
          go_wp2_with fail
          refine ⟨⟨k + 1, by omega, by go_num, ?_, hb.out.setCell (Nat.le_refl _) _⟩, by simp [intOf]; omega⟩
          rw [← hset.out]
          exact hf.out.set (by rw [mapTo_len]; exact hl) (small1 x) hv.out
        · have hn := Lib.hid (hsame.out (hnot.out (by omega)))
          go_wp2_with fail
          exact ⟨⟨k + 1, by omega, by go_num, by rw [hn.out]; exact hf, hb⟩, by simp [intOf]; omega⟩
      · have hn := Lib.hid (hsame.out (hnot.out (by omega)))
        go_wp2_with fail
        exact ⟨⟨k + 1, by omega, by go_num, by rw [hn.out]; exact hf, hb⟩, by simp [intOf]; omega⟩
    · have hcv := Buf.text hf.out s.size cap (by rw [mapTo_len]; omega)
      have he : Hid (mapTo small1 s.data.toList k = small s.data.toList) := by
        have : k = s.data.toList.length := by omega
        rw [this]
        exact mapTo_end small1 _
      go_wp2_with fail
      go_ret
      exact ⟨by rw [← he.out]; rfl, hb.out⟩

theorem same_text (a b : Bytes) : ((bs a).toList == (bs b).toList) = decide (a = b) := by
  rw [ByteArray.toList_eq, ByteArray.toList_eq, bs_toList, bs_toList]
  cases h : a == b
  · simp only [beq_eq_false_iff_ne] at h; simp [h]
  · simp only [beq_iff_eq] at h; simp [h]

theorem find_drop {s : Bytes} {l : List Bytes} {k : Nat} (h : k < l.length) : find s k (l.drop k) = if s = l[k] then some k else find s (k + 1) (l.drop (k + 1)) := by
  rw [List.drop_eq_getElem_cons h]
  rfl

/-- Behind the names: a number of the field. -/
def numberIn (f : Nat) (s : Bytes) : Option Nat :=
  match number s with
  | some n => if low f ≤ n ∧ n ≤ high f then some n else none
  | none => none
theorem place_def (f : Nat) (s : Bytes) : place f s = match find (small s) 0 (names f) with
    | some i => some (low f + i)
    | none => numberIn f s := rfl

theorem number_le {s : Bytes} {n : Nat} (h : number s = some n) : n ≤ 99 := by
  have hd : ∀ b x, digit b = some x → x ≤ 9 := fun b x hx => by
    unfold digit at hx
    split at hx
    · rename_i hr
      cases hx
      have := UInt8.le_iff_toNat_le.1 hr.2
      simp at this
      omega
    · cases hx
  match s with
  | [] => cases h
  | [a] => have := hd a n h; omega
  | [a, b] =>
    cases hx : digit a with
    | none => simp [number, hx] at h
    | some x =>
      cases hy : digit b with
      | none => simp [number, hx, hy] at h
      | some y =>
        simp only [number, hx, hy, Option.some.injEq] at h
        have := hd a x hx
        have := hd b y hy
        omega
  | _ :: _ :: _ :: _ => cases h
theorem orNone_bound (s : Bytes) : -1 ≤ orNone (number s) ∧ orNone (number s) ≤ 99 := by
  cases h : number s with
  | none => simp [orNone]
  | some n => have := number_le h; simp only [orNone]; omega
theorem numberIn_low {f : Nat} {s : Bytes} (h : orNone (number s) < low f) : orNone (numberIn f s) = -1 := by
  unfold numberIn
  cases hn : number s with
  | none => rfl
  | some n =>
    rw [hn] at h
    simp only [orNone] at h
    simp only []
    rw [if_neg (by omega)]
    rfl
theorem numberIn_high {f : Nat} {s : Bytes} (h : (high f : Int) < orNone (number s)) : orNone (numberIn f s) = -1 := by
  unfold numberIn
  cases hn : number s with
  | none => rfl
  | some n =>
    rw [hn] at h
    simp only [orNone] at h
    simp only []
    rw [if_neg (by omega)]
    rfl
theorem numberIn_in {f : Nat} {s : Bytes} (h1 : ¬ orNone (number s) < low f) (h2 : ¬ (high f : Int) < orNone (number s)) : orNone (numberIn f s) = orNone (number s) := by
  unfold numberIn
  cases hn : number s with
  | none => rfl
  | some n =>
    rw [hn] at h1 h2
    simp only [orNone] at h1 h2
    simp only []
    rw [if_pos (by omega)]

set_option maxRecDepth 100000 in
set_option maxHeartbeats 400000 in
theorem place_any (f : Nat) (s : ByteArray) (w : World) (hf : f < 5) (hs : s.size ≤ 1000) :
    Calls Tryz.prog 84 #[.int .i64 f, .string s] w fun e w' => e = .returned (.int .i64 (orNone (place f s.data.toList))) ∧ Below w.heap.size w w' := by
  have hp := Lib.hid (place_def f s.data.toList)
  generalize place f s.data.toList = r at *
  go_enter Tryz.func84, Tryz.ntmps84
  go_wp2_with fail
  refine (names_any f w hf).mono ?_
  rintro e w1 ⟨⟨v, rfl, hN⟩, b1⟩
  replace b1 := Lib.hid b1
  have hnl : (names f).length ≤ 12 := by
    have : ∀ f, f < 5 → (names f).length ≤ 12 := by decide
    exact this f hf
  generalize names f = l at *
  obtain ⟨p, cap, rfl, hc⟩ := hN
  replace hc := Lib.hid hc
  go_wp2_with fail
  go_loopw [6] (fun i wr => ∃ k : Nat, k ≤ l.length ∧ i = .int .i64 k ∧ Hid (find (small s.data.toList) k (l.drop k) = find (small s.data.toList) 0 l) ∧ Hid (∀ i (h : i < l.length), ∃ b, p = some ⟨b, 0, none⟩ ∧ wr.cell? ⟨b, i, none⟩ = some (.string (bs l[i]))) ∧ Hid (Below w.heap.size w wr)) (fun i _ => l.length - (intOf i).toNat)
  case atStart => exact ⟨0, by omega, rfl, rfl, hc, b1⟩
  case round =>
    obtain ⟨k, hk, rfl, hfi, hcell, hb⟩ := hrel
    clear hc b1
    have hlow : low f ≤ 1 := by unfold low; split <;> omega
    have Cl := Lib.hid (fun W => low_any f W hf)
    by_cases hlt : k < l.length
    · obtain ⟨b, rfl, hck⟩ := hcell.out k hlt
      have hfd := Lib.hid (find_drop (s := small s.data.toList) hlt)
      have hst := Lib.hid (same_text (small s.data.toList) l[k])
      have hbl := World.block_lt_of_cell? wr _ hck
      have cs : ∀ W : World, Hid (Calls Tryz.prog 112 #[.string s] W fun e w' => e = .returned (.string (bs (small s.data.toList))) ∧ Below W.heap.size W w') := fun W => small_any s W hs
      have Cs := Lib.hid cs
      clear cs
      generalize bs l[k] = X at *
      generalize bs (small s.data.toList) = S at *
      go_wp2_with fail
      go_region_held3 (fun w' => w'.cell? ⟨b, k, none⟩ = some (.string X)) (first | exact hc6 | go_keep)
        (first
          | (go_at_call 112; refine (Cs.out _).out.mono ?_; rintro e w6 ⟨rfl, k6⟩; have hc6 := (k6.cell (p := ⟨b, k, none⟩) hbl).trans hck; replace k6 := Lib.hid k6))
      have b7 := Lib.hid (hb.out.drew.trans (k6.out.mono hb.out.drew.size))
      have hcell6 : Hid (∀ i (h : i < l.length), ∃ b', some (⟨b, 0, none⟩ : Addr) = some ⟨b', 0, none⟩ ∧ w6.cell? ⟨b', i, none⟩ = some (.string (bs l[i]))) := fun i hi => by
        obtain ⟨b', e, h⟩ := hcell.out i hi
        obtain rfl : b = b' := by injection e with e; injection e
        exact ⟨b, rfl, (k6.out.cell (p := ⟨b, i, none⟩) hbl).trans h⟩
      clear k6 hc6 hcell
      by_cases heq : small s.data.toList = l[k]
      · have ht : (S.toList == X.toList) = true := by rw [hst.out]; simpa using heq
        have hr : Hid (r = some (low f + k)) := by
          rw [hp.out, ← hfi.out, hfd.out, if_pos heq]
          exact rfl
        clear heq hp hfi hfd
        generalize low f = lo at *
        rw [ht]
        go_wp2_with fail
        refine (Cl.out _).mono ?_
        rintro e w' ⟨rfl, rfl⟩
        go_wp2_with fail
        go_ret
        exact ⟨by rw [hr.out]; rfl, b7.out⟩
      · have ht : (S.toList == X.toList) = false := by rw [hst.out]; simpa using heq
        have hnext : Hid (find (small s.data.toList) (k + 1) (l.drop (k + 1)) = find (small s.data.toList) 0 l) := by
          rw [← hfi.out, hfd.out, if_neg heq]
          exact rfl
        clear heq hfi hfd
        rw [ht]
        go_wp2_with fail
        exact ⟨⟨k + 1, by omega, by go_num, hnext, hcell6, b7⟩, by simp [intOf]; omega⟩
    · have hnone : Hid (find (small s.data.toList) 0 l = none) := by
        rw [← hfi.out, List.drop_eq_nil_of_le (by omega)]
        rfl
      rw [hnone.out] at hp
      clear hcell hfi hnone
      have hr := Lib.hid (show r = numberIn f s.data.toList from hp.out)
      clear hp
      have cn := Lib.hid (number_any s wr hs)
      have ch := Lib.hid (high_any f wr hf)
      have hhigh : high f ≤ 59 := by
        have : ∀ f, f < 5 → high f ≤ 59 := by decide
        exact this f hf
      have hz := orNone_bound s.data.toList
      have z1 := Lib.hid (@numberIn_low f s.data.toList)
      have z2 := Lib.hid (@numberIn_high f s.data.toList)
      have z3 := Lib.hid (@numberIn_in f s.data.toList)
      rw [← hr.out] at z1 z2 z3
      generalize low f = lo at *
      generalize high f = hi at *
      generalize orNone (number s.data.toList) = z at *
      clear hr
      go_wp2_with fail
      refine cn.out.mono ?_
      rintro e w' ⟨rfl, rfl⟩
      by_cases g1 : z < lo
      · have fin := Lib.hid (z1.out g1)
        go_wp2_with fail
        refine (Cl.out _).mono ?_
        rintro e w' ⟨rfl, rfl⟩
        go_wp2_with fail
        go_ret
        exact ⟨by rw [fin.out]; rfl, hb.out⟩
      · go_wp2_with fail
        refine (Cl.out _).mono ?_
        rintro e w' ⟨rfl, rfl⟩
        go_wp2_with fail
        refine ch.out.mono ?_
        rintro e w' ⟨rfl, b7⟩
        have b8 := Lib.hid (hb.out.trans (b7.mono hb.out.size))
        clear b7
        by_cases g2 : (hi : Int) < z
        · have fin := Lib.hid (z2.out g2)
          go_wp2_with fail
          go_ret
          exact ⟨by rw [fin.out]; rfl, b8.out⟩
        · have fin := Lib.hid (z3.out g1 (by omega))
          go_wp2_with fail
          go_ret
          exact ⟨by rw [fin.out]; rfl, b8.out⟩
end Go.Proofs.YtiidhcpflplpiaaGreatDoor
