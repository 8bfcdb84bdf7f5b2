/-
  Texts laid into one (a claim has 60 files at most): CMap, CNum, Cut, Buf, Place, Part, Has, CSpan, CPart.
-/
import Derived.Test.YtoihekgmomjhpaaGreatDoorKC1
import Derived.Maps.Own
import Derived.StringKeys
import Derived.Lib.ConvBytes
import Derived.Laws.IdiomStrings
import Derived.Deep.RegionHeld3
import Derived.Deep.QuietTactic
import Derived.BigQuiet
import Derived.WalkSmall
/-
  A map of names (layer 4): what is put in, and what is found.
-/
set_option linter.unusedVariables false
namespace Go.Proofs.YtoihekgmomjhpaaGreatDoor
open Go.RowKit Crn Go.ChangeMaps
/-- The block b is a map of these names, each with its number. -/
def NameMap (w : World) (b : Nat) (l : List (ByteArray × Nat)) : Prop :=
  ∃ es clock, w.heap[b]? = some (.map es clock) ∧ es.toList.map (fun e => (e.key, e.val)) = l.map fun p => (Value.string p.1, Value.int .i64 (p.2 : Nat))
theorem keyed9 : Go.Maps.Keyed Tryz.prog 9 := Go.Maps.string_keyed Tryz.underlying9
theorem key_of (s : ByteArray) (h : s.size ≤ 1000) : keyOf Tryz.prog 9 (.string s) = some (.string s.data.toList) :=
  Go.WideMaps.keyOf_string_mk Tryz.underlying9 (by unfold maxLen; omega)
def look (s : ByteArray) : List (ByteArray × Nat) → Option Nat
  | [] => none
  | p :: r => if p.1 = s then some p.2 else look s r
theorem look_none {s : ByteArray} {l : List (ByteArray × Nat)} (h : ∀ p ∈ l, p.1 ≠ s) : look s l = none := by
  induction l with
  | nil => rfl
  | cons p r ih =>
    unfold look
    rw [if_neg (h p (by simp)), ih (fun q hq => h q (by simp [hq]))]
theorem look_some {s : ByteArray} {v : Nat} {l : List (ByteArray × Nat)} (hd : l.Pairwise (fun p q => p.1 ≠ q.1)) (h : (s, v) ∈ l) : look s l = some v := by
  induction l with
  | nil => cases h
  | cons p r ih =>
    unfold look
    rw [List.pairwise_cons] at hd
    rcases List.mem_cons.1 h with rfl | h
    · rw [if_pos rfl]
    · rw [if_neg (hd.1 _ h), ih hd.2 h]
def lookAns (r : Option Nat) : Value := .tuple #[.int .i64 ((r.getD 0 : Nat) : Int), .bool r.isSome]
theorem map66 : Tryz.prog.underlying 241 = some (.map 9 3) := Tryz.underlying241
theorem keys_ok {l : List (ByteArray × Nat)} {es : Array MapEntry} (hl : ∀ p ∈ l, p.1.size ≤ 1000) (he : es.toList.map (fun e => (e.key, e.val)) = l.map fun p => (Value.string p.1, Value.int .i64 (p.2 : Nat))) :
    (∀ e ∈ es.toList, ∃ k, keyOf Tryz.prog 9 e.key = some k) ∧ ∀ e ∈ es.toList, ∃ p ∈ l, e.key = .string p.1 ∧ e.val = .int .i64 (p.2 : Nat) := by
  have h2 : ∀ e ∈ es.toList, ∃ p ∈ l, e.key = .string p.1 ∧ e.val = .int .i64 (p.2 : Nat) := fun e h => by
    have : (e.key, e.val) ∈ l.map fun p => (Value.string p.1, Value.int .i64 (p.2 : Nat)) := by
      rw [← he]
      exact List.mem_map.2 ⟨e, h, rfl⟩
    obtain ⟨p, hp, e1⟩ := List.mem_map.1 this
    injection e1 with a b
    exact ⟨p, hp, a.symm, b.symm⟩
  refine ⟨fun e h => ?_, h2⟩
  obtain ⟨p, hp, e1, _⟩ := h2 e h
  rw [e1]
  exact ⟨_, key_of p.1 (hl p hp)⟩
theorem lookup_run {w : World} {b : Nat} {l : List (ByteArray × Nat)} (hm : NameMap w b l) (hl : ∀ p ∈ l, p.1.size ≤ 1000) (hd : l.Pairwise (fun p q => p.1 ≠ q.1)) (s : ByteArray) (hs : s.size ≤ 1000) :
    (Instr.lookup 241 (.map (some b)) (.string s) true).run Tryz.prog w = .ok (lookAns (look s l)) w := by
  obtain ⟨es, clock, hb, he⟩ := hm
  obtain ⟨k1, k2⟩ := keys_ok hl he
  rcases keyed9.find w (key_of s hs) es.toList k1 with ⟨h1, h2⟩ | ⟨j, e0, h1, h2, h3⟩
  · have hn : look s l = none := look_none fun p hp e => by
      have : (Value.string p.1, Value.int .i64 (p.2 : Nat)) ∈ es.toList.map (fun e => (e.key, e.val)) := by
        rw [he]
        exact List.mem_map.2 ⟨p, hp, rfl⟩
      obtain ⟨x, hx, ex⟩ := List.mem_map.1 this
      injection ex with a _
      exact h2 x hx (by rw [a, e])
    rw [hn]
    simp [Instr.lookup, run_underlying map66, MapKept.run_getObj_map hb, keyed9.check w _ (key_of s hs), h1, Result.andThen, lookAns]
  · obtain ⟨p, hp, e1, e2⟩ := k2 e0 (List.mem_of_getElem? h2)
    have hn : look s l = some p.2 := look_some hd (by
      rw [h3] at e1
      injection e1 with e1
      subst e1
      exact hp)
    rw [hn]
    simp [Instr.lookup, run_underlying map66, MapKept.run_getObj_map hb, keyed9.check w _ (key_of s hs), h1, Result.andThen, lookAns, e2]
theorem lookup_nil (w : World) (s : ByteArray) (hs : s.size ≤ 1000) :
    (Instr.lookup 241 (.map none) (.string s) true).run Tryz.prog w = .ok (lookAns none) w := by
  rcases keyed9.find w (key_of s hs) [] (fun e h => by cases h) with ⟨h1, _⟩ | ⟨j, e0, h1, h2, h3⟩
  · simp [Instr.lookup, run_underlying map66, keyed9.check w _ (key_of s hs), h1, Result.andThen, lookAns]
  · simp at h2
theorem NameMap.made (w : World) : NameMap (w.alloc (.map #[] 0)) w.heap.size [] := ⟨#[], 0, (MapKept.heap_alloc w _).1, rfl⟩
theorem insert_run {w : World} {b : Nat} {l : List (ByteArray × Nat)} (hm : NameMap w b l) (hl : ∀ p ∈ l, p.1.size ≤ 1000) (s : ByteArray) (hs : s.size ≤ 1000) (hn : ∀ p ∈ l, p.1 ≠ s) (v : Nat) {z : Int} (hz : z = (v : Nat)) :
    ∃ w', (Instr.mapUpdate 241 (.map (some b)) (.string s) (.int .i64 z)).run Tryz.prog w = .ok () w' ∧ NameMap w' b (l ++ [(s, v)]) ∧ Below b w w' ∧ w'.heap.size = w.heap.size := by
  subst hz
  obtain ⟨es, clock, hb, he⟩ := hm
  obtain ⟨k1, k2⟩ := keys_ok hl he
  rcases keyed9.find w (key_of s hs) es.toList k1 with ⟨h1, h2⟩ | ⟨j, e0, h1, h2, h3⟩
  · refine ⟨setBlock w b (.map (es.push ⟨.string s, .int .i64 (v : Nat), clock⟩) (clock + 1)), ?_, ⟨_, _, heap_setBlock_same hb _, ?_⟩, ⟨rfl, rfl, rfl, by simp [setBlock], fun k hk => heap_setBlock_other hb _ (by omega)⟩, by simp [setBlock]⟩
    · simp [Instr.mapUpdate, run_underlying map66, MapKept.run_getObj_map hb, keyed9.check w false (key_of s hs), h1, MapKept.run_setObj_map _ hb, Result.andThen, setBlock]
    · simp [he]
  · obtain ⟨p, hp, e1, e2⟩ := k2 e0 (List.mem_of_getElem? h2)
    rw [h3] at e1
    injection e1 with e1
    exact absurd e1.symm (hn p hp)
theorem NameMap.below {w w' : World} {b B : Nat} {l : List (ByteArray × Nat)} (h : NameMap w b l) (hb : Below B w w') (hB : b < B) : NameMap w' b l := by
  obtain ⟨es, clock, h1, h2⟩ := h
  exact ⟨es, clock, (hb.block b hB).trans h1, h2⟩
theorem NameMap.lt {w : World} {b : Nat} {l : List (ByteArray × Nat)} (h : NameMap w b l) : b < w.heap.size := by
  obtain ⟨es, clock, h1, _⟩ := h
  exact (Array.getElem?_eq_some_iff.1 h1).1
/-! The names of a field. -/
def nameRow : Nat → List Bytes → List (ByteArray × Nat)
  | _, [] => []
  | k, n :: r => (bs n, k) :: nameRow (k + 1) r
theorem bs_inj {a b : Bytes} (h : bs a = bs b) : a = b := by
  have := congrArg (fun x : ByteArray => x.data.toList) h
  exact this
theorem look_find (s : Bytes) (lo k : Nat) (l : List Bytes) : look (bs s) (nameRow (lo + k) l) = (find s k l).map (lo + ·) := by
  induction l generalizing k with
  | nil => rfl
  | cons n r ih =>
    unfold nameRow look find
    by_cases h : s = n
    · rw [if_pos (by rw [h]), if_pos h]; rfl
    · rw [if_neg (fun e => h (bs_inj e).symm), if_neg h, show lo + k + 1 = lo + (k + 1) by omega, ih]
theorem row_size (k : Nat) (l : List Bytes) (h : ∀ n ∈ l, n.length ≤ 1000) : ∀ p ∈ nameRow k l, p.1.size ≤ 1000 := by
  induction l generalizing k with
  | nil => intro p hp; cases hp
  | cons n r ih =>
    intro p hp
    rcases List.mem_cons.1 hp with rfl | hp
    · rw [bs_size]; exact h n (by simp)
    · exact ih (k + 1) (fun m hm => h m (by simp [hm])) p hp
theorem row_mem (k : Nat) (l : List Bytes) : ∀ p ∈ nameRow k l, ∃ n ∈ l, p.1 = bs n := by
  induction l generalizing k with
  | nil => intro p hp; cases hp
  | cons n r ih =>
    intro p hp
    rcases List.mem_cons.1 hp with rfl | hp
    · exact ⟨n, by simp, rfl⟩
    · obtain ⟨m, hm, e⟩ := ih (k + 1) p hp
      exact ⟨m, by simp [hm], e⟩
theorem row_apart (k : Nat) (l : List Bytes) (h : l.Pairwise (· ≠ ·)) : (nameRow k l).Pairwise (fun p q => p.1 ≠ q.1) := by
  induction l generalizing k with
  | nil => exact List.Pairwise.nil
  | cons n r ih =>
    rw [List.pairwise_cons] at h
    refine List.pairwise_cons.2 ⟨fun p hp e => ?_, ih (k + 1) h.2⟩
    obtain ⟨m, hm, e2⟩ := row_mem (k + 1) r p hp
    exact h.1 m hm (bs_inj (e.trans e2))
theorem names_short : ∀ f, f < 5 → (∀ n ∈ names f, n.length ≤ 1000) ∧ (names f).Pairwise (· ≠ ·) := by decide +kernel
/-- The names of the field f, as the program has them. -/
def NamesAt (w : World) (m : Value) (f : Nat) : Prop :=
  (names f = [] ∧ m = .map none) ∨ ∃ b, m = .map (some b) ∧ NameMap w b (nameRow (low f) (names f))
theorem NamesAt.run {w : World} {m : Value} {f : Nat} (h : NamesAt w m f) (hf : f < 5) (s : Bytes) (hs : s.length ≤ 1000) :
    (Instr.lookup 241 m (.string (bs s)) true).run Tryz.prog w = .ok (lookAns ((find s 0 (names f)).map (low f + ·))) w := by
  have hz : (bs s).size ≤ 1000 := by rw [bs_size]; exact hs
  rcases h with ⟨h1, rfl⟩ | ⟨b, rfl, h⟩
  · rw [h1, lookup_nil w (bs s) hz]
    rfl
  · rw [lookup_run h (row_size _ _ (names_short f hf).1) (row_apart _ _ (names_short f hf).2) (bs s) hz, ← look_find]
    rfl
theorem NamesAt.below {w w' : World} {m : Value} {f B : Nat} (h : NamesAt w m f) (hb : Below B w w') (hB : w.heap.size ≤ B) : NamesAt w' m f := by
  rcases h with h | ⟨b, e, h⟩
  · exact Or.inl h
  · exact Or.inr ⟨b, e, h.below hb (Nat.lt_of_lt_of_le h.lt hB)⟩
end Go.Proofs.YtoihekgmomjhpaaGreatDoor

/-
  The program's parseNumber (layer 4): a number of one or two digits, or none.
-/
namespace Go.Proofs.YtoihekgmomjhpaaGreatDoor
open Go.RowKit Crn
/-- A number and whether it is there; what stands for none is 0. -/
def answerN : Option Nat → Ending
  | some n => .returned (.tuple #[.int .i64 n, .bool true])
  | none => .returned (.tuple #[.int .i64 0, .bool false])
set_option maxRecDepth 100000 in
set_option maxHeartbeats 400000 in
theorem parseNumber_any (s : ByteArray) (w : World) (hs : s.size ≤ 1000) :
    Calls Tryz.prog 161 #[.string s] w fun e w' => e = answerN (number s.data.toList) ∧ w = w' := by
  by_cases h1 : s.size < 1
  · have hn : Hid (number s.data.toList = none) := number_none (by left; simpa using h1)
    go_enter Tryz.func161, Tryz.ntmps161
    go_wp2_with fail
    go_ret2
    exact ⟨by rw [hn.out]; rfl, rfl⟩
  · by_cases h2 : 2 < s.size
    · have hn : Hid (number s.data.toList = none) := number_none (by right; simpa using h2)
      go_enter Tryz.func161, Tryz.ntmps161
      go_wp2_with fail
      go_ret2
      exact ⟨by rw [hn.out]; rfl, rfl⟩
    · have hn : Hid (number s.data.toList = digits s.data.toList 0) := number_digits _ (by simp; omega) (by simp; omega)
      have e1 : decide ((s.size : Int) < 1) = false := by simp; omega
      have e2 : decide (2 < (s.size : Int)) = false := by simp; omega
      go_enter Tryz.func161, Tryz.ntmps161
      go_wp2_with fail
      clear e1 e2
      go_loop [4, 16] (fun a i => ∃ k n : Nat, k ≤ s.size ∧ n < 10 ^ k ∧ i = .int .i64 k ∧ a = .int .i64 n ∧ Hid (digits (s.data.toList.drop k) n = number s.data.toList)) (fun _ i => 2 - (intOf i).toNat)
      case atStart => exact ⟨0, 0, by omega, by omega, rfl, rfl, by rw [hn.out]; rfl⟩
      case round =>
        obtain ⟨k, n, hk, hb, rfl, rfl, hd⟩ := hrel
        have hb2 : n ≤ 100 := Nat.le_trans (Nat.le_of_lt hb) (Nat.le_trans (Nat.pow_le_pow_right (by omega) (show k ≤ 2 by omega)) (by decide))
        by_cases hlt : k < s.size
        · have hc := Lib.hid (drop_cons s k hlt)
          have hb' := Lib.hid hb
          clear hb
          have hu := UInt8.toNat_lt s[k]
          by_cases g1 : 48 ≤ s[k].toNat
          · by_cases g2 : s[k].toNat ≤ 57
            · have hg := Lib.hid (digit_some g1 g2)
              go_wp2_with fail
              go_round
              case rel =>
                refine ⟨k + 1, n * 10 + (s[k].toNat - 48), by omega, ?_, by go_num, by go_num, ?_⟩
                · have := hb'.out; rw [Nat.pow_succ]; omega
                · have := hd.out
                  rw [hc.out] at this
                  simp only [digits, hg.out] at this
                  exact this
              case measure => simp [intOf]; omega
            · have hg := Lib.hid (digit_none (b := s[k]) (by omega))
              go_wp2_with fail
              go_ret2
              refine ⟨?_, rfl⟩
              have := hd.out
              rw [hc.out] at this
              simp only [digits, hg.out] at this
              rw [← this]; rfl
          · have hg := Lib.hid (digit_none (b := s[k]) (by omega))
            go_wp2_with fail
            go_ret2
            refine ⟨?_, rfl⟩
            have := hd.out
            rw [hc.out] at this
            simp only [digits, hg.out] at this
            rw [← this]; rfl
        · have he : Hid (s.data.toList.drop k = []) := List.drop_eq_nil_of_le (by simp; omega)
          go_wp2_with fail
          go_ret2
          refine ⟨?_, rfl⟩
          have := hd.out
          rw [he.out] at this
          rw [← this]; rfl
end Go.Proofs.YtoihekgmomjhpaaGreatDoor

/-
  The document's split (layer 4): a slice of the pieces.
-/
namespace Go.Proofs.YtoihekgmomjhpaaGreatDoor
open Go.RowKit Crn
def strsOf (l : List Bytes) : List Value := l.map fun p => .string (bs p)
theorem strsOf_len (l : List Bytes) : (strsOf l).length = l.length := by simp [strsOf]
theorem strsOf_snoc (l : List Bytes) (p : Bytes) : strsOf (l ++ [p]) = strsOf l ++ [.string (bs p)] := by simp [strsOf]
/-- A slice of texts that lies in the world. -/
def Strs (w : World) (v : Value) (l : List Bytes) : Prop :=
  ∃ b cap, v = .slice (some ⟨b, 0, none⟩) l.length cap ∧ ∀ i (h : i < l.length), w.cell? ⟨b, i, none⟩ = some (.string (bs l[i]))
theorem extract_bs (s : ByteArray) (a b : Nat) : s.extract a b = bs ((s.data.toList.drop a).take (b - a)) := by
  have h : (s.extract a b).data.toList = (s.data.toList.drop a).take (b - a) := by
    rw [ByteArray.data_extract, Array.toList_extract, List.extract_eq_take_drop]
  rw [← h]
  rfl
/-- What the loop keeps: the pieces so far, where the next one begins, and how far it was looked. -/
def Cut (w : World) (c : UInt8) (s : ByteArray) (v : Value) (j k : Nat) (wr : World) : Prop :=
  ∃ pre : List Bytes, pre.length ≤ k ∧ wr.ownsRow w.heap.size 9 1 v pre.length (strsOf pre) ∧ Below w.heap.size w wr ∧
    ((k ≤ s.size ∧ j ≤ k ∧ c ∉ (s.data.toList.drop j).take (k - j) ∧ split c s.data.toList = pre ++ split c (s.data.toList.drop j)) ∨ (k = s.size + 1 ∧ pre = split c s.data.toList))
theorem own_strs {w : World} {base n : Nat} {v : Value} {l : List Bytes} (h0 : l ≠ []) (h : w.ownsRow base 9 1 v n (strsOf l)) : Strs w v l := by
  have hl : l.length = n := by have := h.1; rw [strsOf_len] at this; omega
  rcases h.2 with ⟨_, h0'⟩ | ⟨g, cap, cur, rfl, _, hg, _⟩
  · exact absurd (List.length_eq_zero_iff.1 (hl.trans h0')) h0
  · refine ⟨g, cap, by rw [hl], fun i hi => ?_⟩
    have hc := h.cells (g := g) rfl i (.string (bs l[i])) (by simp [strsOf, hi])
    have hadd : (⟨g, 0, none⟩ : Addr).add i = ⟨g, i, none⟩ := by unfold Addr.add; split <;> simp_all
    rw [hadd] at hc
    exact hc
theorem Cut.last {w wr w2 : World} {c : UInt8} {s : ByteArray} {v v2 : Value} {j n : Nat} {pre : List Bytes} (hn : n = s.size) (hj : j ≤ n) (hp : pre.length ≤ n) (ho : wr.ownsRow w.heap.size 9 1 v pre.length (strsOf pre)) (hb : Below w.heap.size w wr)
    (hno : c ∉ (s.data.toList.drop j).take (n - j)) (hsp : split c s.data.toList = pre ++ split c (s.data.toList.drop j))
    (o : Obj) (ho2 : w2.ownsRow w.heap.size 9 1 v2 (pre.length + 1) (strsOf pre ++ [.string (s.extract j n)])) (hg2 : (wr.alloc o).grownBy w2 v.ownBlock) : Cut w c s v2 (n + 1) (n + 1) w2 := by
  have hB : Below w.heap.size w w2 := (hb.alloc hb.size o).grown hg2 (by have := hb.size; simp; omega) (fun k hk => (ho.lt k hk).1)
  have et : (s.data.toList.drop j).take (n - j) = s.data.toList.drop j := List.take_of_length_le (by simp; omega)
  refine ⟨pre ++ [(s.data.toList.drop j).take (n - j)], by simp; omega, ?_, hB, Or.inr ⟨by omega, ?_⟩⟩
  · rw [strsOf_snoc, List.length_append, ← extract_bs]; exact ho2
  · rw [hsp, et, split_none (by rw [← et]; exact hno)]
theorem Cut.next {w wr w2 : World} {c : UInt8} {s : ByteArray} {v v2 : Value} {j k : Nat} {pre : List Bytes} (hk : k < s.size) (hj : j ≤ k) (hp : pre.length ≤ k) (ho : wr.ownsRow w.heap.size 9 1 v pre.length (strsOf pre)) (hb : Below w.heap.size w wr)
    (hno : c ∉ (s.data.toList.drop j).take (k - j)) (hsp : split c s.data.toList = pre ++ split c (s.data.toList.drop j)) (hc : s[k] = c)
    (o : Obj) (ho2 : w2.ownsRow w.heap.size 9 1 v2 (pre.length + 1) (strsOf pre ++ [.string (s.extract j k)])) (hg2 : (wr.alloc o).grownBy w2 v.ownBlock) : Cut w c s v2 (k + 1) (k + 1) w2 := by
  have hB : Below w.heap.size w w2 := (hb.alloc hb.size o).grown hg2 (by have := hb.size; simp; omega) (fun k hk => (ho.lt k hk).1)
  have ed : s.data.toList.drop j = (s.data.toList.drop j).take (k - j) ++ c :: s.data.toList.drop (k + 1) := by
    have h1 := (List.take_append_drop (k - j) (s.data.toList.drop j)).symm
    rw [List.drop_drop, show j + (k - j) = k by omega, drop_cons s k hk, hc] at h1
    exact h1
  refine ⟨pre ++ [(s.data.toList.drop j).take (k - j)], by simp; omega, ?_, hB, Or.inl ⟨by omega, by omega, by simp, ?_⟩⟩
  · rw [strsOf_snoc, List.length_append, ← extract_bs]; exact ho2
  · rw [hsp, List.append_assoc]
    congr 1
    rw [ed, split_cut hno, ← ed]
    rfl
end Go.Proofs.YtoihekgmomjhpaaGreatDoor

/-
  []byte(s) that a call has for itself: bytes changed one by one, and the text that comes back.
-/
namespace Go.Proofs.YtoihekgmomjhpaaGreatDoor
open Go.RowKit Crn
/-- The bytes of a block that may be written. -/
def Buf (w : World) (b : Nat) (l : Bytes) : Prop :=
  (∀ j (h : j < l.length), w.cell? ⟨b, j, none⟩ = some (.int .u8 (l[j].toNat : Nat))) ∧ ∀ j, j < l.length → w.frozen? ⟨b, j, none⟩ = false
theorem bytes_of (w : World) (t : ByteArray) : ∃ cap w5, (convert 9 147 (.string t)).run Tryz.prog w = .ok (.slice (some ⟨w.heap.size, 0, none⟩) t.size cap) w5 ∧ Below w.heap.size w w5 ∧ Buf w5 w.heap.size t.data.toList := by
  refine ⟨_, _, Lib.run_convert_string_bytes w 9 147 5 t Tryz.underlying9 Tryz.underlying147 Tryz.underlying5, ⟨?_, ?_, ?_, ?_, fun k hk => Lib.bytesWorld_at_old w 5 t k hk⟩, fun j hj => ?_, fun j hj => ?_⟩
  · rfl
  · rfl
  · rfl
  · rw [Lib.bytesWorld_size]; omega
  · rw [Lib.bytesWorld_cell w 5 t j (by simpa using hj), List.getD_eq_getElem?_getD, List.getElem?_eq_getElem hj]; rfl
  · have hj' : j < t.size := by simpa using hj
    simp [World.frozen?, Lib.bytesWorld_at_new, Lib.bytesCells]
    omega
theorem off_ne {b i j : Nat} (h : i ≠ j) : (⟨b, i, none⟩ : Addr) ≠ ⟨b, j, none⟩ := fun e => h (by injection e)
theorem Buf.set {w : World} {b : Nat} {l : Bytes} (h : Buf w b l) {i : Nat} (hi : i < l.length) (x : UInt8) {v : Int} (hv : v = (x.toNat : Nat)) : Buf (w.setCell ⟨b, i, none⟩ (.int .u8 v)) b (l.set i x) := by
  refine ⟨fun j hj => ?_, fun j hj => ?_⟩
  · have hj' : j < l.length := by simpa using hj
    rw [List.getElem_set]
    by_cases e : i = j
    · subst e
      rw [if_pos rfl, World.cell?_setCell_same _ _ _ (h.1 i hi), hv]
    · rw [if_neg e, World.cell?_setCell_other _ _ _ _ (off_ne e), h.1 j hj']
  · rw [World.frozen?_setCell]
    exact h.2 j (by simpa using hj)
theorem Buf.text {w : World} {b : Nat} {l : Bytes} (h : Buf w b l) (n cap : Nat) (hn : n = l.length) : (convert 147 9 (.slice (some ⟨b, 0, none⟩) n cap)).run Tryz.prog w = .ok (.string (bs l)) w := by
  have := run_convert_bytes_back (P := Tryz.prog) w 147 9 5 ⟨b, 0, none⟩ cap l Tryz.underlying147 Tryz.underlying5 Tryz.underlying9 (fun j hj => by
    have hadd : (⟨b, 0, none⟩ : Addr).add j = ⟨b, j, none⟩ := by unfold Addr.add; split <;> simp_all
    rw [hadd, h.1 j hj])
  rw [hn]
  exact this
/-- The first k bytes turned. -/
def mapTo (g : UInt8 → UInt8) (l : Bytes) (k : Nat) : Bytes := (l.take k).map g ++ l.drop k
theorem mapTo_zero (g : UInt8 → UInt8) (l : Bytes) : mapTo g l 0 = l := by simp [mapTo]
theorem mapTo_len (g : UInt8 → UInt8) (l : Bytes) (k : Nat) : (mapTo g l k).length = l.length := by
  simp [mapTo]; omega
theorem mapTo_end (g : UInt8 → UInt8) (l : Bytes) : mapTo g l l.length = l.map g := by simp [mapTo]
theorem mapTo_get (g : UInt8 → UInt8) (l : Bytes) (k : Nat) (h : k < l.length) (h' : k < (mapTo g l k).length) : (mapTo g l k)[k] = l[k] := by
  simp only [mapTo]
  rw [List.getElem_append_right (by simp; omega)]
  simp [Nat.min_eq_left (Nat.le_of_lt h)]
theorem mapTo_set (g : UInt8 → UInt8) (l : Bytes) (k : Nat) (h : k < l.length) : (mapTo g l k).set k (g l[k]) = mapTo g l (k + 1) := by
  unfold mapTo
  have hk : ((l.take k).map g).length = k := by simp; omega
  rw [List.set_append_right _ _ (by omega), hk, Nat.sub_self, List.drop_eq_getElem_cons h, List.set_cons_zero, List.take_add_one, List.getElem?_eq_getElem h, Option.toList_some, List.map_append, List.append_assoc]
  rfl
theorem mapTo_same (g : UInt8 → UInt8) (l : Bytes) (k : Nat) (h : k < l.length) (e : g l[k] = l[k]) : mapTo g l (k + 1) = mapTo g l k := by
  rw [← mapTo_set g l k h, e]
  apply List.ext_getElem (by simp)
  intro i h1 h2
  rw [List.getElem_set]
  split
  · rename_i e2
    subst e2
    rw [mapTo_get g l k h]
  · rfl
end Go.Proofs.YtoihekgmomjhpaaGreatDoor

/-
  The document's names, small and place (layer 4): a number of a field, or a name.
-/
namespace Go.Proofs.YtoihekgmomjhpaaGreatDoor
open Go.RowKit Crn
/-- A slice of names, or none. -/
def Names (w : World) (v : Value) (l : List Bytes) : Prop :=
  ∃ p cap, v = .slice p l.length cap ∧ ∀ i (h : i < l.length), ∃ b, p = some ⟨b, 0, none⟩ ∧ w.cell? ⟨b, i, none⟩ = some (.string (bs l[i]))
theorem small1_big {b : UInt8} (h1 : 65 ≤ b.toNat) (h2 : b.toNat ≤ 90) : (b.toNat : Int) + 32 = ((small1 b).toNat : Nat) := by
  have h : 65 ≤ b ∧ b ≤ 90 := ⟨UInt8.le_iff_toNat_le.2 (by simpa using h1), UInt8.le_iff_toNat_le.2 (by simpa using h2)⟩
  unfold small1
  rw [if_pos h, UInt8.toNat_add]
  simp
  omega
theorem small1_not {b : UInt8} (h : ¬ (65 ≤ b.toNat ∧ b.toNat ≤ 90)) : small1 b = b := by
  unfold small1
  rw [if_neg (fun e => h ⟨by simpa using UInt8.le_iff_toNat_le.1 e.1, by simpa using UInt8.le_iff_toNat_le.1 e.2⟩)]
theorem same_text (a b : Bytes) : ((bs a).toList == (bs b).toList) = decide (a = b) := by
  rw [ByteArray.toList_eq, ByteArray.toList_eq, bs_toList, bs_toList]
  cases h : a == b
  · simp only [beq_eq_false_iff_ne] at h; simp [h]
  · simp only [beq_iff_eq] at h; simp [h]
theorem number_le {s : Bytes} {n : Nat} (h : number s = some n) : n ≤ 99 := by
  have hd : ∀ b x, digit b = some x → x ≤ 9 := fun b x hx => by
    unfold digit at hx
    split at hx
    · rename_i hr
      cases hx
      have := UInt8.le_iff_toNat_le.1 hr.2
      simp at this
      omega
    · cases hx
  match s with
  | [] => cases h
  | [a] => have := hd a n h; omega
  | [a, b] =>
    cases hx : digit a with
    | none => simp [number, hx] at h
    | some x =>
      cases hy : digit b with
      | none => simp [number, hx, hy] at h
      | some y =>
        simp only [number, hx, hy, Option.some.injEq] at h
        have := hd a x hx
        have := hd b y hy
        omega
  | _ :: _ :: _ :: _ => cases h
theorem orNone_bound (s : Bytes) : -1 ≤ orNone (number s) ∧ orNone (number s) ≤ 99 := by
  cases h : number s with
  | none => simp [orNone]
  | some n => have := number_le h; simp only [orNone]; omega
end Go.Proofs.YtoihekgmomjhpaaGreatDoor

/-
  The document's part and field (layer 4).
-/
namespace Go.Proofs.YtoihekgmomjhpaaGreatDoor
open Go.RowKit Crn
theorem Strs.cells {w w' : World} {v : Value} {l : List Bytes} (h : Strs w v l) (hb : Below w.heap.size w w') : Strs w' v l := by
  obtain ⟨b, cap, rfl, hc⟩ := h
  refine ⟨b, cap, rfl, fun i hi => ?_⟩
  rw [hb.cell (p := ⟨b, i, none⟩) (World.block_lt_of_cell? w _ (hc i hi))]
  exact hc i hi
theorem is_star (p : Bytes) : ((bs p).toList == (⟨#[42]⟩ : ByteArray).toList) = decide (p = star) := same_text p star
theorem run_step {f b st k n set : Nat} (h : n ≤ b) : gatherN f b st (k + 1) n set = gatherN f b st k (n + st) (set ||| bitN f n) := by
  show (if n ≤ b then _ else _) = _
  rw [if_pos h]
theorem run_stop {f b st k n set : Nat} (h : ¬ n ≤ b) : gatherN f b st k n set = set := by
  cases k with
  | zero => rfl
  | succ k =>
    show (if n ≤ b then _ else _) = _
    rw [if_neg h]
theorem gather_next {f b st k n set r : Nat} (h : n ≤ b) (hk : b + 1 - n ≤ k) (hg : gatherN f b st k n set = r) : gatherN f b st (k - 1) (n + st) (set ||| bitN f n) = r := by
  obtain ⟨j, rfl⟩ : ∃ j, k = j + 1 := ⟨k - 1, by omega⟩
  rw [run_step h] at hg
  exact hg
theorem or_pow (t m : Nat) (ht : t < 18446744073709551616) (hm : m < 64) : bits .or .u64 (t : Int) (IntKind.u64.wrap (2 ^ m)) = ((t ||| 2 ^ m : Nat) : Int) := by
  have h2 : 2 ^ m < 18446744073709551616 := Nat.pow_lt_pow_right (a := 2) (by omega) hm
  have e0 : (2 : Int) ^ m = ((2 ^ m : Nat) : Int) := by simp
  have key : ∀ q : Nat, q < 18446744073709551616 → bits .or .u64 (t : Int) (IntKind.u64.wrap (q : Int)) = ((t ||| q : Nat) : Int) := fun q hq => by
    rw [IntWalk.u64_in _ (by omega)]
    exact u64_or_nat t q ht hq
  rw [e0]
  exact key _ h2
theorem or_lt {t m : Nat} (ht : t < 18446744073709551616) (hm : m < 64) : t ||| 2 ^ m < 18446744073709551616 :=
  Nat.or_lt_two_pow (n := 64) ht (Nat.pow_lt_pow_right (a := 2) (by omega) hm)
/-- What part answers. -/
def answer (r : Option Nat) : Ending := .returned (.tuple #[.int .u64 (r.getD 0 : Nat), .bool r.isSome])
theorem split_len {c : UInt8} {l q : Bytes} (h : q ∈ split c l) : q.length ≤ l.length := by
  unfold split at h
  induction l generalizing q with
  | nil => simp [splitP] at h; subst h; simp
  | cons x l ih =>
    cases hx : x == c
    · rw [splitP_no (p := (· == c)) hx] at h
      cases hs : splitP (· == c) l with
      | nil => exact absurd hs (splitP_ne _ _)
      | cons y t =>
        rw [hs] at h ih
        simp only [onto, List.mem_cons] at h
        rcases h with rfl | h
        · have := ih (q := y) (by simp); simp; omega
        · have := ih (q := q) (by simp [h]); simp; omega
    · rw [splitP_yes (p := (· == c)) hx] at h
      rcases List.mem_cons.1 h with rfl | h
      · simp
      · have := ih h; simp; omega
end Go.Proofs.YtoihekgmomjhpaaGreatDoor

/-
  The document's has, Day and Minute (layer 4).
-/
namespace Go.Proofs.YtoihekgmomjhpaaGreatDoor
open Go.RowKit Crn
theorem bit_test (set k : Nat) (h : set < 18446744073709551616) : (bits .and .u64 ((set : Int) / 2 ^ k) 1 == 1) = set.testBit k := by
  have e0 : (set : Int) / 2 ^ k = ((set / 2 ^ k : Nat) : Int) := by simp
  have hle : set / 2 ^ k ≤ set := Nat.div_le_self _ _
  rw [e0, Nat.testBit_eq_decide_div_mod_eq]
  generalize set / 2 ^ k = q at *
  rw [and_one_u64 _ (by omega) (by omega), Bool.eq_iff_iff]
  simp only [beq_iff_eq, decide_eq_true_eq]
  omega
/-- A spec as the program holds it. -/
def cellsN (x : SpecN) : Array Value := #[.int .u64 x.min, .int .u64 x.hour, .int .u64 x.dom, .int .u64 x.mon, .int .u64 x.dow, .bool x.anyDom, .bool x.anyDow, .int .i64 x.ahead]
def specV (x : SpecN) : Value := .agg (cellsN x)
/-- Its numbers fit. -/
structure Fits (x : SpecN) : Prop where
  min : x.min < 18446744073709551616
  hour : x.hour < 18446744073709551616
  dom : x.dom < 18446744073709551616
  mon : x.mon < 18446744073709551616
  dow : x.dow < 18446744073709551616
  a1 : -9223372036854775808 ≤ x.ahead
  a2 : x.ahead ≤ 9223372036854775807
end Go.Proofs.YtoihekgmomjhpaaGreatDoor

/-
  The program's has of a span, every, has of a set, Day and Minute (layer 4).
-/
set_option linter.unusedVariables false
namespace Go.Proofs.YtoihekgmomjhpaaGreatDoor
open Go.RowKit Crn
def spanV (a b : Nat) : Value := .agg #[.int .i64 a, .int .i64 b]
set_option maxRecDepth 100000 in
theorem spanHas_any (a b n : Nat) (w : World) (ha : a ≤ 100) (hb : b ≤ 100) (hn : n ≤ 100) :
    Calls Tryz.prog 228 #[spanV a b, .int .i64 n] w fun e w' => e = .returned (.bool (decide (a ≤ n ∧ n ≤ b))) ∧ Below w.heap.size w w' := by
  unfold spanV
  by_cases h1 : a ≤ n
  · have hd : Hid (decide (a ≤ n ∧ n ≤ b) = decide (n ≤ b)) := by simp [Hid, h1]
    go_enter Tryz.func228, Tryz.ntmps228
    go_wp2_with fail
    go_ret
    exact ⟨ret_bool (by rw [hd.out]), (Below.refl _ _).alloc (Nat.le_refl _) _⟩
  · have hd : Hid (decide (a ≤ n ∧ n ≤ b) = false) := by simp [Hid, h1]
    go_enter Tryz.func228, Tryz.ntmps228
    go_wp2_with fail
    go_ret
    exact ⟨ret_bool (by rw [hd.out]), (Below.refl _ _).alloc (Nat.le_refl _) _⟩
set_option maxRecDepth 100000 in
set_option maxHeartbeats 400000 in
theorem every_any (a b st : Nat) (w : World) (ha : a ≤ 63) (hb : b ≤ 63) (h1 : 1 ≤ st) (h2 : st ≤ 99) :
    Calls Tryz.prog 162 #[spanV a b, .int .i64 st] w fun e w' => e = .returned (.int .u64 (bitsN 0 a b st : Nat)) ∧ Below w.heap.size w w' := by
  unfold spanV
  go_enter Tryz.func162, Tryz.ntmps162
  go_wp2_with fail
  go_loop [5, 6] (fun set n => ∃ k m t : Nat, n = .int .i64 m ∧ set = .int .u64 t ∧ m ≤ 200 ∧ t < 18446744073709551616 ∧ b + 1 - m ≤ k ∧ Hid (gatherN 0 b st k m t = bitsN 0 a b st)) (fun _ n => b + 1 - (intOf n).toNat)
  case atStart => exact ⟨64, a, 0, rfl, rfl, by omega, by omega, by omega, rfl⟩
  case round =>
    obtain ⟨k, m, t, rfl, rfl, hm200, ht64, hfuel, hg⟩ := hrel
    by_cases hmt : m ≤ b
    · have hm64 : m < 64 := by omega
      have hn := Lib.hid (gather_next hmt hfuel hg.out)
      rw [show bitN 0 m = 2 ^ m from rfl] at hn
      go_wp2_with fail
      refine ⟨⟨k - 1, m + st, t ||| 2 ^ m, by go_num, by rw [or_pow t m ht64 hm64], by omega, or_lt ht64 hm64, by omega, hn⟩, by simp [intOf]; omega⟩
    · have hn := Lib.hid (run_stop (st := st) (k := k) (set := t) (f := 0) hmt)
      go_wp2_with fail
      go_ret
      exact ⟨ret_int (by rw [← hg.out, hn.out]), (Below.refl _ _).alloc (Nat.le_refl _) _⟩
set_option maxRecDepth 100000 in
theorem setHas_any (set : Nat) (n : Int) (w : World) (hs : set < 18446744073709551616) (h1 : -9223372036854775808 ≤ n) (h2 : n ≤ 9223372036854775807) :
    Calls Tryz.prog 211 #[.int .u64 set, .int .i64 n] w fun e w' => e = .returned (.bool (has set n)) ∧ w = w' := by
  by_cases g1 : 0 ≤ n
  · by_cases g2 : n < 64
    · obtain ⟨k, rfl⟩ : ∃ k : Nat, n = (k : Int) := ⟨n.toNat, by omega⟩
      have hb := Lib.hid (bit_test set k hs)
      have hh : Hid (has set (k : Int) = set.testBit k) := by
        unfold has
        rw [Int.toNat_natCast, show decide (0 ≤ (k : Int) ∧ (k : Int) ≤ 63) = true by simp; omega]
        exact Bool.true_and _
      go_enter Tryz.func211, Tryz.ntmps211
      go_wp2_with fail
      go_ret
      exact ⟨ret_bool (by rw [hh.out]; exact hb.out), rfl⟩
    · have hh : Hid (has set n = false) := by
        unfold has
        rw [show decide (0 ≤ n ∧ n ≤ 63) = false by simp; omega]
        exact Bool.false_and _
      go_enter Tryz.func211, Tryz.ntmps211
      go_wp2_with fail
      go_ret
      exact ⟨ret_bool (by rw [hh.out]), rfl⟩
  · have hh : Hid (has set n = false) := by
      unfold has
      rw [show decide (0 ≤ n ∧ n ≤ 63) = false by simp; omega]
      exact Bool.false_and _
    go_enter Tryz.func211, Tryz.ntmps211
    go_wp2_with fail
    go_ret
    exact ⟨ret_bool (by rw [hh.out]), rfl⟩
set_option maxRecDepth 100000 in
set_option maxHeartbeats 400000 in
theorem cMinute_any (x : SpecN) (hx : Fits x) (hour m : Int) (w : World) (h1 : -9223372036854775808 ≤ hour) (h2 : hour ≤ 9223372036854775807) (m1 : -9223372036854775808 ≤ m) (m2 : m ≤ 9223372036854775807) :
    Calls Tryz.prog 190 #[specV x, .int .i64 hour, .int .i64 m] w fun e w' => e = .returned (.bool (minute x hour m)) ∧ Below w.heap.size w w' := by
  have ca := Lib.hid (fun W => setHas_any x.hour hour W hx.hour h1 h2)
  have cb := Lib.hid (fun W => setHas_any x.min m W hx.min m1 m2)
  have hm : Hid (minute x hour m = (has x.hour hour && has x.min m)) := rfl
  obtain ⟨x0, x1, x2, x3, x4, x5, x6, x7⟩ := x
  simp only [specV, cellsN] at *
  generalize has x1 hour = p at *
  generalize has x0 m = q at *
  go_enter Tryz.func190, Tryz.ntmps190
  go_wp2_with fail
  refine (ca.out _).mono ?_
  rintro e w' ⟨rfl, rfl⟩
  cases p
  · go_wp2_with fail
    go_ret
    exact ⟨ret_bool (by rw [hm.out]; rfl), (Below.refl _ _).alloc (Nat.le_refl _) _⟩
  · go_wp2_with fail
    refine (cb.out _).mono ?_
    rintro e w' ⟨rfl, rfl⟩
    go_wp2_with fail
    go_ret
    exact ⟨ret_bool (by rw [hm.out]; rfl), (Below.refl _ _).alloc (Nat.le_refl _) _⟩
set_option maxRecDepth 100000 in
set_option maxHeartbeats 400000 in
theorem cDay_any (x : SpecN) (hx : Fits x) (mo d wd : Int) (w : World) (h1 : -9223372036854775808 ≤ mo) (h2 : mo ≤ 9223372036854775807) (d1 : -9223372036854775808 ≤ d) (d2 : d ≤ 9223372036854775807) (w1 : -9223372036854775808 ≤ wd) (w2 : wd ≤ 9223372036854775807) :
    Calls Tryz.prog 193 #[specV x, .int .i64 mo, .int .i64 d, .int .i64 wd] w fun e w' => e = .returned (.bool (day x mo d wd)) ∧ Below w.heap.size w w' := by
  have ca := Lib.hid (fun W => setHas_any x.dom d W hx.dom d1 d2)
  have cb := Lib.hid (fun W => setHas_any x.dow wd W hx.dow w1 w2)
  have cc := Lib.hid (fun W => setHas_any x.mon mo W hx.mon h1 h2)
  have hm : Hid (day x mo d wd = (has x.mon mo && (if x.anyDom || x.anyDow then has x.dom d && has x.dow wd else has x.dom d || has x.dow wd))) := rfl
  obtain ⟨x0, x1, x2, x3, x4, x5, x6, x7⟩ := x
  simp only [specV, cellsN] at *
  generalize has x3 mo = p at *
  generalize has x2 d = q at *
  generalize has x4 wd = r at *
  go_enter Tryz.func193, Tryz.ntmps193
  go_wp2_with fail
  refine (cc.out _).mono ?_
  rintro e w' ⟨rfl, rfl⟩
  cases p
  · go_wp2_with fail
    go_ret
    exact ⟨ret_bool (by rw [hm.out]; rfl), (Below.refl _ _).alloc (Nat.le_refl _) _⟩
  · cases x5 <;> cases x6 <;> cases q
    all_goals
      go_wp2_with fail
      refine (ca.out _).mono ?_
      rintro e w' ⟨rfl, rfl⟩
      go_wp2_with fail
      try
        refine (cb.out _).mono ?_
        rintro e w' ⟨rfl, rfl⟩
        go_wp2_with fail
      go_ret
      exact ⟨ret_bool (by rw [hm.out]; rfl), (Below.refl _ _).alloc (Nat.le_refl _) _⟩
end Go.Proofs.YtoihekgmomjhpaaGreatDoor

/-
  How the program takes a field apart, in plain functions, and that it says what the document says (no program).
-/
set_option linter.unusedVariables false
namespace Crn
open Go
/-- What stands ahead of a step, place by place. -/
def rangeU (f : Nat) (p : Bytes) (stepped : Bool) : Option (Nat × Nat) :=
  if (Lib.cut p [45]).2.2 then
    match place f (Lib.cut p [45]).1, place f (Lib.cut p [45]).2.1 with
    | some x, some y => if x ≤ y then some (x, y) else none
    | _, _ => none
  else match place f p with
    | some x => if stepped then none else some (x, x)
    | none => none
def stepU (c : Bytes × Bytes × Bool) : Option Nat :=
  if c.2.2 then match number c.2.1 with
    | some n => if 1 ≤ n then some n else none
    | none => none
  else some 1
def partU (f : Nat) (s : Bytes) : Option Nat :=
  match stepU (Lib.cut s [47]) with
  | none => none
  | some step =>
    if (Lib.cut s [47]).1 = star then some (bitsN 0 (low f) (high f) step) else
    match rangeU f (Lib.cut s [47]).1 (Lib.cut s [47]).2.2 with
    | some (a, b) => some (bitsN 0 a b step)
    | none => none
def partsU (f : Nat) : List Bytes → Nat → Option Nat
  | [], set => some set
  | p :: r, set => match partU f p with
    | some n => partsU f r (set ||| n)
    | none => none
def fieldU (f : Nat) (s : Bytes) : Option Nat := partsU f (split 44 s) 0
/-- The places of the week as its days. -/
def wk (n : Nat) : Nat := (n ||| n >>> 7) &&& 127
def fold (f n : Nat) : Nat := if f = 4 then wk n else n
theorem wk_or (a b : Nat) : wk (a ||| b) = wk a ||| wk b := by
  unfold wk
  apply Nat.eq_of_testBit_eq
  intro i
  simp only [Nat.testBit_and, Nat.testBit_or, Nat.testBit_shiftRight]
  cases a.testBit i <;> cases b.testBit i <;> cases a.testBit (7 + i) <;> cases b.testBit (7 + i) <;> cases Nat.testBit 127 i <;> rfl
theorem fold_or (f a b : Nat) : fold f (a ||| b) = fold f a ||| fold f b := by
  unfold fold
  split
  · exact wk_or a b
  · rfl
theorem wk_bits : ∀ a, a < 8 → ∀ b, b < 8 → ∀ st, st < 100 → 1 ≤ st → bitsN 4 a b st = wk (bitsN 0 a b st) := by decide +kernel
theorem wk_star : ∀ st, st < 100 → 1 ≤ st → bitsN 4 0 6 st = wk (bitsN 0 0 7 st) := by decide +kernel
theorem gather_plain {f : Nat} (hf : f ≠ 4) (b st k n set : Nat) : gatherN f b st k n set = gatherN 0 b st k n set := by
  induction k generalizing n set with
  | zero => rfl
  | succ k ih =>
    unfold gatherN
    have e : bitN f n = bitN 0 n := by unfold bitN; rw [if_neg (by omega), if_neg (by omega)]
    rw [e, ih]
theorem fold_bits {f a b st : Nat} (hf : f < 5) (ha : a ≤ high f) (hb : b ≤ high f) (h1 : 1 ≤ st) (h2 : st ≤ 99) : bitsN f a b st = fold f (bitsN 0 a b st) := by
  unfold fold
  by_cases h4 : f = 4
  · subst h4
    rw [if_pos rfl]
    have : high 4 = 7 := rfl
    exact wk_bits a (by omega) b (by omega) st (by omega) h1
  · rw [if_neg h4]
    exact gather_plain h4 _ _ _ _ _
theorem fold_star {f st : Nat} (hf : f < 5) (h1 : 1 ≤ st) (h2 : st ≤ 99) : bitsN f (low f) (top f) st = fold f (bitsN 0 (low f) (high f) st) := by
  unfold fold
  by_cases h4 : f = 4
  · subst h4
    rw [if_pos rfl]
    exact wk_star st (by omega) h1
  · rw [if_neg h4, show top f = high f by unfold top; rw [if_neg h4]]
    exact gather_plain h4 _ _ _ _ _
/-! A mark that no place has. -/
theorem digit_mark : ∀ c : UInt8, c < 48 → digit c = none := fun c h => by
  unfold digit
  rw [if_neg]
  rintro ⟨a, _⟩
  rw [UInt8.le_iff_toNat_le] at a
  rw [UInt8.lt_iff_toNat_lt] at h
  simp at a h
  omega
theorem number_mark {c : UInt8} (hc : c < 48) {s : Bytes} (h : c ∈ s) : number s = none := by
  match s, h with
  | [a], h =>
    obtain rfl : c = a := by simpa using h
    exact digit_mark c hc
  | [a, b], h =>
    have : c = a ∨ c = b := by simpa using h
    rcases this with rfl | rfl
    · simp only [number, digit_mark c hc]
    · simp only [number, digit_mark c hc]
      cases digit a <;> rfl
  | _ :: _ :: _ :: _, _ => rfl
theorem small1_mark : ∀ c : UInt8, c < 48 → small1 c = c := fun c h => by
  unfold small1
  rw [if_neg]
  rintro ⟨a, _⟩
  rw [UInt8.le_iff_toNat_le] at a
  rw [UInt8.lt_iff_toNat_lt] at h
  simp at a h
  omega
theorem find_mark {c : UInt8} (hc : c < 48) {s : Bytes} (h : c ∈ s) (l : List Bytes) (k : Nat) (hl : ∀ n ∈ l, ∀ b ∈ n, ¬ b < 48) : find (small s) k l = none := by
  induction l generalizing k with
  | nil => rfl
  | cons n r ih =>
    unfold find
    rw [if_neg, ih (k + 1) (fun m hm => hl m (by simp [hm]))]
    intro e
    refine hl n (by simp) c ?_ hc
    rw [← e]
    exact List.mem_map.2 ⟨c, h, small1_mark c hc⟩
theorem names_letters : ∀ f, f < 5 → ∀ n ∈ names f, ∀ b ∈ n, ¬ b < 48 := by decide +kernel
theorem place_mark {f : Nat} (hf : f < 5) {c : UInt8} (hc : c < 48) {s : Bytes} (h : c ∈ s) : place f s = none := by
  unfold place
  rw [find_mark hc h _ _ (names_letters f hf), number_mark hc h]
theorem split_len (c : UInt8) (s : Bytes) (h : c ∈ s) : 2 ≤ (split c s).length := by
  obtain ⟨a, b, rfl, hn⟩ := List.eq_append_cons_of_mem h
  rw [split_cut hn]
  have : split c b ≠ [] := splitP_ne _ _
  cases hb : split c b with
  | nil => exact absurd hb this
  | cons x t => simp
/-- A range, and the numbers that it says. -/
theorem range_span {f : Nat} (hf : f < 5) (p : Bytes) (hp : p ≠ star) (step : Nat) (h1 : 1 ≤ step) (h2 : step ≤ 99) :
    spanN f p step = (rangeU f p false).map (fun x => fold f (bitsN 0 x.1 x.2 step)) ∧
    ((split 45 p).length = 2 → rangeU f p true = rangeU f p false) ∧ ((split 45 p).length ≠ 2 → rangeU f p true = none) := by
  unfold spanN rangeU
  rw [if_neg hp]
  rcases first_of (c := 45) (s := p) with h | ⟨a, b, rfl, h⟩
  · rw [cut_none h, split_none h]
    refine ⟨?_, fun e => by simp at e, fun _ => ?_⟩
    · simp only [Bool.false_eq_true, if_false]
      cases hq : place f p with
      | none => rfl
      | some x =>
        have := place_range hf hq
        simp only [Option.map_some]
        rw [fold_bits hf this.2 this.2 h1 h2]
    · simp only [Bool.false_eq_true, if_false, if_true]
      cases place f p <;> rfl
  · rw [cut_at h, split_cut h]
    by_cases hb : 45 ∈ b
    · have hlen := split_len 45 b hb
      have hpl := place_mark hf (by decide) hb
      match hs : split 45 b, hlen with
      | x :: y :: t, _ =>
        simp only [if_true, hpl]
        refine ⟨?_, fun e => by simp at e, fun _ => ?_⟩
        · cases place f a <;> rfl
        · cases place f a <;> rfl
    · rw [split_none hb]
      simp only [if_true]
      refine ⟨?_, fun _ => trivial, fun e => by simp at e⟩
      cases hx : place f a with
      | none => rfl
      | some x =>
        cases hy : place f b with
        | none => rfl
        | some y =>
          have rx := place_range hf hx
          have ry := place_range hf hy
          simp only []
          by_cases hlt : y < x
          · rw [if_pos hlt, if_neg (by omega)]; rfl
          · rw [if_neg hlt, if_pos (by omega), fold_bits hf rx.2 ry.2 h1 h2]; rfl
theorem part_fold {f : Nat} (hf : f < 5) (s : Bytes) : partN f s = (partU f s).map (fold f) := by
  unfold partN partU stepU
  rcases first_of (c := 47) (s := s) with h | ⟨a, b, rfl, h⟩
  · rw [cut_none h, split_none h]
    simp only [Bool.false_eq_true, if_false]
    by_cases hs : s = star
    · rw [if_pos hs]
      unfold spanN
      rw [if_pos hs, fold_star hf (by omega) (by omega)]
      rfl
    · rw [if_neg hs, (range_span hf s hs 1 (by omega) (by omega)).1]
      cases rangeU f s false <;> rfl
  · rw [cut_at h, split_cut h]
    simp only [if_true]
    by_cases hb : 47 ∈ b
    · have hlen := split_len 47 b hb
      rw [number_mark (by decide) hb]
      match hs : split 47 b, hlen with
      | x :: y :: t, _ => rfl
    · rw [split_none hb]
      simp only []
      cases hn : number b with
      | none => rfl
      | some step =>
        have hle : step ≤ 99 := Go.Proofs.YtoihekgmomjhpaaGreatDoor.number_le hn
        simp only []
        by_cases h1 : 1 ≤ step
        · rw [if_pos h1]
          simp only []
          by_cases ha : a = star
          · rw [if_pos ⟨h1, Or.inl ha⟩, if_pos ha]
            unfold spanN
            rw [if_pos ha, fold_star hf h1 hle]
            rfl
          · obtain ⟨r1, r2, r3⟩ := range_span hf a ha step h1 hle
            rw [if_neg ha]
            by_cases h2 : (split 45 a).length = 2
            · rw [if_pos ⟨h1, Or.inr h2⟩, r1, r2 h2]
              cases rangeU f a false <;> rfl
            · rw [if_neg (fun e => e.2.elim ha h2), r3 h2]
              rfl
        · rw [if_neg h1, if_neg (fun e => h1 e.1)]
          rfl
theorem parts_fold {f : Nat} (hf : f < 5) (l : List Bytes) (set : Nat) : parts f l (fold f set) = (partsU f l set).map (fold f) := by
  induction l generalizing set with
  | nil => rfl
  | cons p r ih =>
    unfold parts partsU
    rw [part_fold hf]
    cases partU f p with
    | none => rfl
    | some n =>
      simp only [Option.map_some]
      rw [← fold_or, ih]
theorem field_fold {f : Nat} (hf : f < 5) (s : Bytes) : field f s = (fieldU f s).map (fold f) := by
  unfold field fieldU
  have : fold f 0 = 0 := by unfold fold wk; split <;> rfl
  rw [← parts_fold hf, this]
/-! Sizes. -/
theorem gather_lt (b st : Nat) (hb : b < 64) (k n set : Nat) (hs : set < 18446744073709551616) : gatherN 0 b st k n set < 18446744073709551616 := by
  induction k generalizing n set with
  | zero => exact hs
  | succ k ih =>
    unfold gatherN
    split
    · refine ih _ _ (Nat.or_lt_two_pow (n := 64) hs ?_)
      have e : bitN 0 n = 2 ^ n := rfl
      rw [e]
      exact Nat.pow_lt_pow_right (by omega) (by omega)
    · exact hs
theorem bits_lt {a b st : Nat} (hb : b < 64) : bitsN 0 a b st < 18446744073709551616 := gather_lt b st hb 64 a 0 (by omega)
theorem range_le {f : Nat} (hf : f < 5) {p : Bytes} {t : Bool} {x y : Nat} (h : rangeU f p t = some (x, y)) : x ≤ 59 ∧ y ≤ 59 := by
  have hh : high f ≤ 59 := by
    have : ∀ f, f < 5 → high f ≤ 59 := by decide
    exact this f hf
  unfold rangeU at h
  split at h
  · split at h
    · rename_i a b ha hb
      have := place_range hf ha
      have := place_range hf hb
      split at h
      · cases h; omega
      · cases h
    · cases h
  · split at h
    · rename_i a ha
      have := place_range hf ha
      split at h
      · cases h
      · cases h; omega
    · cases h
theorem part_lt {f : Nat} (hf : f < 5) {s : Bytes} {n : Nat} (h : partU f s = some n) : n < 18446744073709551616 := by
  have hh : high f ≤ 59 := by
    have : ∀ f, f < 5 → high f ≤ 59 := by decide
    exact this f hf
  unfold partU at h
  split at h
  · cases h
  · split at h
    · cases h; exact bits_lt (by omega)
    · split at h
      · rename_i a b hr
        cases h
        exact bits_lt (by have := range_le hf hr; omega)
      · cases h
end Crn
