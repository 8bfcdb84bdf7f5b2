/-
  The document's split (layer 4): a slice of the pieces.
-/
import Derived.Test.YtiidhcpflplpiaaGreatDoorNum
import Derived.Test.YtiidhcpflplpiaaGreatDoorSplit
namespace Go.Proofs.YtiidhcpflplpiaaGreatDoor
open Go.RowKit Crn

def strsOf (l : List Bytes) : List Value := l.map fun p => .string (bs p)
theorem strsOf_len (l : List Bytes) : (strsOf l).length = l.length := by simp [strsOf]
theorem strsOf_snoc (l : List Bytes) (p : Bytes) : strsOf (l ++ [p]) = strsOf l ++ [.string (bs p)] := by simp [strsOf]

/-- A slice of texts that lies in the world. -/
def Strs (w : World) (v : Value) (l : List Bytes) : Prop :=
  ∃ b cap, v = .slice (some ⟨b, 0, none⟩) l.length cap ∧ ∀ i (h : i < l.length), w.cell? ⟨b, i, none⟩ = some (.string (bs l[i]))

theorem Tryz.info9 : (Tryz.prog.info? 9).map (fun i => (i.zero, i.size, i.bytes)) = some (some (.string ByteArray.empty), 1, 16) := by kernel_rfl

theorem extract_bs (s : ByteArray) (a b : Nat) : s.extract a b = bs ((s.data.toList.drop a).take (b - a)) := by
  have h : (s.extract a b).data.toList = (s.data.toList.drop a).take (b - a) := by
    rw [ByteArray.data_extract, Array.toList_extract, List.extract_eq_take_drop]
  rw [← h]
  rfl

/-- What the loop keeps: the pieces so far, where the next one begins, and how far it was looked. -/
def Cut (w : World) (c : UInt8) (s : ByteArray) (v : Value) (j k : Nat) (wr : World) : Prop :=
  ∃ pre : List Bytes, pre.length ≤ k ∧ wr.ownsRow w.heap.size 9 1 v pre.length (strsOf pre) ∧ Below w.heap.size w wr ∧
    ((k ≤ s.size ∧ j ≤ k ∧ c ∉ (s.data.toList.drop j).take (k - j) ∧ split c s.data.toList = pre ++ split c (s.data.toList.drop j)) ∨ (k = s.size + 1 ∧ pre = split c s.data.toList))

theorem own_strs {w : World} {base n : Nat} {v : Value} {l : List Bytes} (h0 : l ≠ []) (h : w.ownsRow base 9 1 v n (strsOf l)) : Strs w v l := by
  have hl : l.length = n := by have := h.1; rw [strsOf_len] at this; omega
  rcases h.2 with ⟨_, h0'⟩ | ⟨g, cap, cur, rfl, _, hg, _⟩
  · exact absurd (List.length_eq_zero_iff.1 (hl.trans h0')) h0
  · refine ⟨g, cap, by rw [hl], fun i hi => ?_⟩
    have hc := h.cells (g := g) rfl i (.string (bs l[i])) (by simp [strsOf, hi])
    have hadd : (⟨g, 0, none⟩ : Addr).add i = ⟨g, i, none⟩ := by unfold Addr.add; split <;> simp_all
    rw [hadd] at hc
    exact hc

theorem Cut.last {w wr w2 : World} {c : UInt8} {s : ByteArray} {v v2 : Value} {j n : Nat} {pre : List Bytes} (hn : n = s.size) (hj : j ≤ n) (hp : pre.length ≤ n) (ho : wr.ownsRow w.heap.size 9 1 v pre.length (strsOf pre)) (hb : Below w.heap.size w wr)
    (hno : c ∉ (s.data.toList.drop j).take (n - j)) (hsp : split c s.data.toList = pre ++ split c (s.data.toList.drop j))
    (o : Obj) (ho2 : w2.ownsRow w.heap.size 9 1 v2 (pre.length + 1) (strsOf pre ++ [.string (s.extract j n)])) (hg2 : (wr.alloc o).grownBy w2 v.ownBlock) : Cut w c s v2 (n + 1) (n + 1) w2 := by
  have hB : Below w.heap.size w w2 := (hb.alloc hb.size o).grown hg2 (by have := hb.size; simp; omega) (fun k hk => (ho.lt k hk).1)
  have et : (s.data.toList.drop j).take (n - j) = s.data.toList.drop j := List.take_of_length_le (by simp; omega)
  refine ⟨pre ++ [(s.data.toList.drop j).take (n - j)], by simp; omega, ?_, hB, Or.inr ⟨by omega, ?_⟩⟩
  · rw [strsOf_snoc, List.length_append, ← extract_bs]; exact ho2
  · rw [hsp, et, split_none (by rw [← et]; exact hno)]
theorem Cut.next {w wr w2 : World} {c : UInt8} {s : ByteArray} {v v2 : Value} {j k : Nat} {pre : List Bytes} (hk : k < s.size) (hj : j ≤ k) (hp : pre.length ≤ k) (ho : wr.ownsRow w.heap.size 9 1 v pre.length (strsOf pre)) (hb : Below w.heap.size w wr)
    (hno : c ∉ (s.data.toList.drop j).take (k - j)) (hsp : split c s.data.toList = pre ++ split c (s.data.toList.drop j)) (hc : s[k] = c)
    (o : Obj) (ho2 : w2.ownsRow w.heap.size 9 1 v2 (pre.length + 1) (strsOf pre ++ [.string (s.extract j k)])) (hg2 : (wr.alloc o).grownBy w2 v.ownBlock) : Cut w c s v2 (k + 1) (k + 1) w2 := by
  have hB : Below w.heap.size w w2 := (hb.alloc hb.size o).grown hg2 (by have := hb.size; simp; omega) (fun k hk => (ho.lt k hk).1)
  have ed : s.data.toList.drop j = (s.data.toList.drop j).take (k - j) ++ c :: s.data.toList.drop (k + 1) := by
    have h1 := (List.take_append_drop (k - j) (s.data.toList.drop j)).symm
    rw [List.drop_drop, show j + (k - j) = k by omega, drop_cons s k hk, hc] at h1
    exact h1
  refine ⟨pre ++ [(s.data.toList.drop j).take (k - j)], by simp; omega, ?_, hB, Or.inl ⟨by omega, by omega, by simp, ?_⟩⟩
  · rw [strsOf_snoc, List.length_append, ← extract_bs]; exact ho2
  · rw [hsp, List.append_assoc]
    congr 1
    rw [ed, split_cut hno, ← ed]
    rfl
theorem Cut.skip {w wr : World} {c : UInt8} {s : ByteArray} {v : Value} {j k : Nat} {pre : List Bytes} (hk : k < s.size) (hj : j ≤ k) (hp : pre.length ≤ k) (ho : wr.ownsRow w.heap.size 9 1 v pre.length (strsOf pre)) (hb : Below w.heap.size w wr)
    (hno : c ∉ (s.data.toList.drop j).take (k - j)) (hsp : split c s.data.toList = pre ++ split c (s.data.toList.drop j)) (hc : ¬ s[k] = c) : Cut w c s v j (k + 1) wr := by
  refine ⟨pre, by omega, ho, hb, Or.inl ⟨by omega, by omega, ?_, hsp⟩⟩
  rw [show k + 1 - j = (k - j) + 1 by omega, List.take_add_one, List.getElem?_drop, show j + (k - j) = k by omega]
  intro h
  rcases List.mem_append.1 h with h | h
  · exact hno h
  · rw [List.getElem?_eq_getElem (by simpa using hk)] at h
    simp only [Option.toList_some, List.mem_singleton] at h
    exact hc h.symm

theorem one_new (w : World) (x : Value) : ∀ (j : Nat) (u : Value), [x][j]? = some u → (w.alloc (.cells #[x] 9)).cell? ((⟨w.heap.size, 0, none⟩ : Addr).add j) = some u := by
  intro j u hj
  match j, hj with
  | 0, hj => simp at hj; subst hj; simp [Addr.add]
theorem one_cell (X : ByteArray) : ∀ u ∈ [Value.string X], u.oneCell' = true := by
  intro u hu; simp at hu; subst hu; rfl

set_option maxRecDepth 100000 in
set_option maxHeartbeats 400000 in
theorem split_any (s : ByteArray) (c : UInt8) (w : World) (hs : s.size ≤ 1000) :
    Calls Tryz.prog 45 #[.string s, .int .u8 c.toNat] w fun e w' => (∃ v, e = .returned v ∧ Strs w' v (split c s.data.toList)) ∧ Below w.heap.size w w' := by
  obtain ⟨i0, hi, hz0, hz1, hz2⟩ := info_parts Tryz.info9
  go_enter Tryz.func45, Tryz.ntmps45
  go_wp2_with fail
  have l1 : Hid (Cut w c s (.slice (some ⟨w.heap.size, 0, none⟩) 0 0) 0 0 (w.alloc (.cells #[] 9))) := ⟨[], Nat.le_refl _, World.ownsRow_made w #[] 0 (Nat.le_refl _) (by unfold maxLen; omega) rfl, (Below.refl _ _).alloc (Nat.le_refl _) _, Or.inl ⟨Nat.zero_le _, Nat.le_refl _, by simp, rfl⟩⟩
  go_loopw [5, 6, 7] (fun v a i wr => ∃ j k : Nat, k ≤ s.size + 1 ∧ j ≤ k ∧ a = .int .i64 j ∧ i = .int .i64 k ∧ Hid (Cut w c s v j k wr)) (fun _ _ i _ => s.size + 1 - (intOf i).toNat)
  case atStart => exact ⟨0, 0, by omega, by omega, rfl, rfl, l1⟩
  case round =>
    obtain ⟨j, k, hk, hjk, rfl, rfl, hC⟩ := hrel
    clear l1
    obtain ⟨pre, hp, ho, hb, hcase⟩ := hC.out
    replace ho := Lib.hid ho
    replace hb := Lib.hid hb
    clear hC
    by_cases hend : k = s.size + 1
    · have hpre : Hid (pre = split c s.data.toList) := by
        rcases hcase with ⟨h1, _⟩ | ⟨_, h⟩
        · omega
        · exact h
      have fin := Lib.hid (own_strs (l := pre) (by rw [hpre.out]; exact splitP_ne _ _) ho.out)
      clear hcase
      go_wp2_with fail
      go_ret
      exact ⟨⟨_, rfl, by rw [← hpre.out]; exact fin.out⟩, hb.out⟩
    · obtain ⟨_, _, hno, hsp⟩ : k ≤ s.size ∧ j ≤ k ∧ c ∉ (s.data.toList.drop j).take (k - j) ∧ split c s.data.toList = pre ++ split c (s.data.toList.drop j) := by
        rcases hcase with h | ⟨h1, _⟩
        · exact h
        · omega
      replace hno := Lib.hid hno
      replace hsp := Lib.hid hsp
      clear hcase
      by_cases hlast : k = s.size
      · have e0 : ((k : Int) == s.size) = true := by simp; omega
        have hl := Lib.hid hlast
        go_wp2_with (at_builtin; refine wpList_append_own _ rfl _ _ 96 rfl w.heap.size 9 i0 (.string ByteArray.empty) 1 16 Tryz.underlying96 hi hz0 hz1 hz2 rfl (by decide) _ _ _ rfl (ho.out.alloc _) ⟨wr.heap.size, 0, none⟩ 1 1 [.string _] rfl rfl (one_new _ _) (one_cell _) (by unfold maxLen; omega) (by omega) (by have := hb.out.size; simp; omega) ?_; intro v2 w2 ho2 hg2 _; have ho2 := Lib.hid ho2; have hg2 := Lib.hid hg2)
        refine ⟨⟨s.size + 1, s.size + 1, by omega, by omega, by go_num, by go_num, Cut.last rfl (by omega) (by omega) ho.out hb.out (by have := hno.out; rw [hlast] at this; exact this) hsp.out _ ho2.out hg2.out⟩, ?_⟩
        simp [intOf]; omega
      · have hk2 : k < s.size := by omega
        have e0 : ((k : Int) == s.size) = false := by simp; omega
        by_cases hc : s[k] = c
        · have hc' := Lib.hid hc
          have e1 : ((s[k].toNat : Int) == c.toNat) = true := by rw [hc]; simp
          clear hc hlast hend
          go_wp2_with (at_builtin; refine wpList_append_own _ rfl _ _ 96 rfl w.heap.size 9 i0 (.string ByteArray.empty) 1 16 Tryz.underlying96 hi hz0 hz1 hz2 rfl (by decide) _ _ _ rfl (ho.out.alloc _) ⟨wr.heap.size, 0, none⟩ 1 1 [.string _] rfl rfl (one_new _ _) (one_cell _) (by unfold maxLen; omega) (by omega) (by have := hb.out.size; simp; omega) ?_; intro v2 w2 ho2 hg2 _; have ho2 := Lib.hid ho2; have hg2 := Lib.hid hg2)
          refine ⟨⟨k + 1, k + 1, by omega, by omega, by go_num, by go_num, Cut.next hk2 hjk hp ho.out hb.out hno.out hsp.out hc'.out _ ho2.out hg2.out⟩, ?_⟩
          simp [intOf]; omega
        · have hc' := Lib.hid hc
          have e1 : ((s[k].toNat : Int) == c.toNat) = false := by
            simp only [beq_eq_false_iff_ne, ne_eq]
            exact fun e => hc (UInt8.toNat_inj.1 (by omega))
          clear hc hlast hend
          go_wp2_with fail
          refine ⟨⟨j, k + 1, by omega, by omega, by go_num, by go_num, Cut.skip hk2 hjk hp ho.out hb.out hno.out hsp.out hc'.out⟩, ?_⟩
          simp [intOf]; omega
end Go.Proofs.YtiidhcpflplpiaaGreatDoor
