/-
  codec.Uint and the document's own Uint: any number of 64 bits has the bytes of 'enc'. No condition.
-/
import Derived.Test.YtnagidgffkffhaaRows
import Derived.Test.YtnagidgffkffhaaMath
import Derived.Laws.BitsAllLaws
import Derived.Lib.Hide
import Derived.WalkKit
import Derived.WalkSpells
import Derived.WalkLawsBesides
import Derived.Laws.BytesArg
namespace Go.Proofs.Ytnagidgffkffhaa
open Go.RowKit Cod

def nums (l : List Nat) : List Int := l.map fun (x : Nat) => (x : Int)
def cellsOf (l : List Nat) : List Value := (nums l).map (Value.int .u8)
/-- The bytes of a number. -/
def encB (n : Nat) : ByteArray := strOfNums (nums (enc n))

theorem cellsOf_len (l : List Nat) : (cellsOf l).length = l.length := by simp [cellsOf, nums]
theorem cellsOf_snoc (l : List Nat) (x : Nat) : cellsOf (l ++ [x]) = cellsOf l ++ [.int .u8 (x : Int)] := by simp [cellsOf, nums]

theorem Try.info5 : (Try.prog.info? 5).map (fun i => (i.zero, i.size, i.bytes)) = some (some (.int .u8 0), 1, 1) := by kernel_rfl

/-- What the loop keeps: the bytes so far, and the number that is left. -/
def Left (w : World) (n : Nat) (v : Value) (m : Nat) (wr : World) : Prop :=
  ∃ pre : List Nat, enc n = pre ++ enc m ∧ m < 18446744073709551616 ∧ wr.ownsRow w.heap.size 5 1 v pre.length (cellsOf pre) ∧ Below w.heap.size w wr

theorem Left.pre_le {w wr : World} {n m : Nat} {v : Value} (hn : n < 18446744073709551616) (h : Left w n v m wr) : ∃ pre : List Nat, pre.length ≤ 9 ∧ enc n = pre ++ enc m ∧ wr.ownsRow w.heap.size 5 1 v pre.length (cellsOf pre) ∧ Below w.heap.size w wr := by
  obtain ⟨pre, he, _, ho, hb⟩ := h
  refine ⟨pre, ?_, he, ho, hb⟩
  have h1 := enc_ten hn
  have h2 := enc_pos m
  rw [he, List.length_append] at h1
  omega

theorem Left.next {w wr w1 : World} {n m : Nat} {v v' : Value} {pre : List Nat} {x : Nat} (hm : ¬ m < 128) (hlt : m < 18446744073709551616) (hx : x = m % 128 + 128) (he : enc n = pre ++ enc m) (hb : Below w.heap.size w wr) (ho : wr.ownsRow w.heap.size 5 1 v pre.length (cellsOf pre))
    (o : Obj) (ho1 : w1.ownsRow w.heap.size 5 1 v' (pre.length + 1) (cellsOf pre ++ [.int .u8 (x : Int)])) (hg : (wr.alloc o).grownBy w1 v.ownBlock) : Left w n v' (m / 128) w1 := by
  refine ⟨pre ++ [x], ?_, by omega, ?_, ?_⟩
  · rw [he, enc_big hm, hx]; simp
  · rw [cellsOf_snoc, List.length_append]; exact ho1
  · exact (hb.alloc hb.size o).grown hg (by have := hb.size; simp; omega) (fun k hk => (ho.lt k hk).1)

theorem Left.last {w wr w1 : World} {v : Value} {k : Nat} {xs : List Value} (hb : Below w.heap.size w wr) (ho : wr.ownsRow w.heap.size 5 1 v k xs) (o : Obj) (hg : (wr.alloc o).grownBy w1 v.ownBlock) : Below w.heap.size w w1 :=
  (hb.alloc hb.size o).grown hg (by have := hb.size; simp; omega) (fun k hk => (ho.lt k hk).1)

theorem or_more (m : Nat) : bits .or .u8 ((m : Int) % 256) 128 = ((m % 128 + 128 : Nat) : Int) := by
  have h := u8_or_nat (m % 256) 128 (by omega) (by omega)
  rw [or_128 _ (by omega), show m % 256 % 128 = m % 128 by omega] at h
  simpa using h

theorem one_new (w : World) (x : Value) : ∀ (j : Nat) (u : Value), [x][j]? = some u → (w.alloc (.cells #[x] 5)).cell? ((⟨w.heap.size, 0, none⟩ : Addr).add j) = some u := by
  intro j u hj
  match j, hj with
  | 0, hj => simp at hj; subst hj; simp [Addr.add]

theorem one_cell (k : IntKind) (x : Int) : ∀ u ∈ [Value.int k x], u.oneCell' = true := by
  intro u hu; simp at hu; subst hu; rfl

/-- The bytes that a call gathered, as a text. -/
theorem own_text {w : World} {base k : Nat} {v : Value} {l : List Nat} (h : w.ownsRow base 5 1 v (k + 1) (cellsOf l)) :
    ∃ g cap, v = .slice (some ⟨g, 0, none⟩) (k + 1) cap ∧ (convert 99 9 (.slice (some ⟨g, 0, none⟩) (k + 1) cap)).run Try.prog w = .ok (.string (strOfNums (nums l))) w := by
  have hl : l.length = k + 1 := by have := h.1; rw [cellsOf_len] at this; omega
  rcases h.2 with ⟨_, h0⟩ | ⟨g, cap, cur, rfl, _, hg, _⟩
  · omega
  · refine ⟨g, cap, rfl, run_convert_bytes_arg _ 99 5 Try.underlying99 Try.underlying5 g 0 (k + 1) cap (nums l) (by simp [nums, hl]) (fun i hi => ?_) 9 Try.underlying9⟩
    have hc := h.cells (g := g) rfl i (.int .u8 ((nums l).getD i 0)) (by
      have hi2 : i < (nums l).length := by simp [nums]; omega
      simp [cellsOf, List.getD, List.getElem?_eq_getElem hi2])
    have hadd : (⟨g, 0, none⟩ : Addr).add i = ⟨g, 0 + i, none⟩ := by unfold Addr.add; split <;> simp_all
    rw [hadd] at hc
    exact hc

set_option maxRecDepth 100000 in
set_option maxHeartbeats 400000 in
theorem uint_any (n : Nat) (w : World) (hn : n < 18446744073709551616) :
    Calls Try.prog 81 #[.int .u64 n] w fun e w' => e = .returned (.string (encB n)) ∧ Below w.heap.size w w' := by
  obtain ⟨i0, hi, hz0, hz1, hz2⟩ := info_parts Try.info5
  go_enter Try.func81, Try.ntmps81
  go_wp2_with (at_make; refine wpList_make_own _ rfl _ _ 99 rfl w.heap.size 5 i0 (.int .u8 0) 1 Try.underlying99 hi hz0 hz1 _ _ _ 10 rfl rfl (by omega) (by rw [hz2]; omega) (by unfold maxLen; omega) (Nat.le_refl _) ?_; intro w1 ho1 hg1)
  have l1 : Hid (Left w n (.slice (some ⟨w.heap.size, 0, none⟩) 0 10) n w1) := ⟨[], rfl, hn, ho1, (Below.refl _ _).grown hg1 (Nat.le_refl _) (fun k hk => by cases hk)⟩
  clear ho1 hg1
  go_loopw [0, 3] (fun x v wr => ∃ m : Nat, x = .int .u64 m ∧ Hid (Left w n v m wr)) (fun x _ _ => (intOf x).toNat)
  case atStart => exact ⟨n, rfl, l1⟩
  case round =>
    obtain ⟨m, rfl, hl⟩ := hrel
    clear l1
    obtain ⟨pre, hp, he, ho, hb⟩ := hl.out.pre_le hn
    have hm := hl.out.choose_spec.2.1
    replace he := Lib.hid he
    replace ho := Lib.hid ho
    replace hb := Lib.hid hb
    clear hl
    by_cases h : m < 128
    · have hlt : (m : Int) < 128 := by omega
      go_wp2_with (at_builtin; refine wpList_append_own _ rfl _ _ 99 rfl w.heap.size 5 i0 (.int .u8 0) 1 1 Try.underlying99 hi hz0 hz1 hz2 rfl (by decide) _ _ _ rfl (ho.out.alloc _) ⟨wr.heap.size, 0, none⟩ 1 1 [.int .u8 m] rfl rfl (one_new _ _) (one_cell _ _) (by unfold maxLen; omega) (by omega) (by have := hb.out.size; simp; omega) ?_; intro v2 w2 ho2 hg2 _; rw [← cellsOf_snoc] at ho2; obtain ⟨g, cap, rfl, hcv⟩ := own_text ho2; have ho2 := Lib.hid ho2; have hg2 := Lib.hid hg2)
      go_ret
      exact ⟨by rw [encB, he.out, enc_small h]; rfl, Left.last hb.out ho.out _ hg2.out⟩
    · have hlt : ¬ (m : Int) < 128 := by omega
      go_wp2_with (at_builtin; refine wpList_append_own _ rfl _ _ 99 rfl w.heap.size 5 i0 (.int .u8 0) 1 1 Try.underlying99 hi hz0 hz1 hz2 rfl (by decide) _ _ _ rfl (ho.out.alloc _) ⟨wr.heap.size, 0, none⟩ 1 1 [.int .u8 _] rfl rfl (one_new _ _) (one_cell _ _) (by unfold maxLen; omega) (by omega) (by have := hb.out.size; simp; omega) ?_; intro v2 w2 ho2 hg2 _; have ho2 := Lib.hid ho2; have hg2 := Lib.hid hg2)
      refine ⟨⟨m / 128, rfl, Left.next h hm rfl he.out hb.out ho.out _ (by have := ho2.out; rw [or_more] at this; exact this) hg2.out⟩, ?_⟩
      simp [intOf]; omega
set_option maxRecDepth 100000 in
set_option maxHeartbeats 400000 in
theorem refUint_any (n : Nat) (w : World) (hn : n < 18446744073709551616) :
    Calls Try.prog 62 #[.int .u64 n] w fun e w' => e = .returned (.string (encB n)) ∧ Below w.heap.size w w' := by
  obtain ⟨i0, hi, hz0, hz1, hz2⟩ := info_parts Try.info5
  go_enter Try.func62, Try.ntmps62
  go_wp2_with fail
  have l1 : Hid (Left w n (.slice (some ⟨w.heap.size, 0, none⟩) 0 0) n (w.alloc (.cells #[] 5))) := ⟨[], rfl, hn, World.ownsRow_made w #[] 0 (Nat.le_refl _) (by unfold maxLen; omega) rfl, (Below.refl _ _).alloc (Nat.le_refl _) _⟩
  go_loopw [0, 3] (fun x v wr => ∃ m : Nat, x = .int .u64 m ∧ Hid (Left w n v m wr)) (fun x _ _ => (intOf x).toNat)
  case atStart => exact ⟨n, rfl, l1⟩
  case round =>
    obtain ⟨m, rfl, hl⟩ := hrel
    clear l1
    obtain ⟨pre, hp, he, ho, hb⟩ := hl.out.pre_le hn
    have hm := hl.out.choose_spec.2.1
    replace he := Lib.hid he
    replace ho := Lib.hid ho
    replace hb := Lib.hid hb
    clear hl
    by_cases h : m < 128
    · have hlt : (m : Int) < 128 := by omega
      go_wp2_with (at_builtin; refine wpList_append_own _ rfl _ _ 99 rfl w.heap.size 5 i0 (.int .u8 0) 1 1 Try.underlying99 hi hz0 hz1 hz2 rfl (by decide) _ _ _ rfl (ho.out.alloc _) ⟨wr.heap.size, 0, none⟩ 1 1 [.int .u8 m] rfl rfl (one_new _ _) (one_cell _ _) (by unfold maxLen; omega) (by omega) (by have := hb.out.size; simp; omega) ?_; intro v2 w2 ho2 hg2 _; rw [← cellsOf_snoc] at ho2; obtain ⟨g, cap, rfl, hcv⟩ := own_text ho2; have ho2 := Lib.hid ho2; have hg2 := Lib.hid hg2)
      go_ret
      exact ⟨by rw [encB, he.out, enc_small h]; rfl, Left.last hb.out ho.out _ hg2.out⟩
    · have hlt : ¬ (m : Int) < 128 := by omega
      go_wp2_with (at_builtin; refine wpList_append_own _ rfl _ _ 99 rfl w.heap.size 5 i0 (.int .u8 0) 1 1 Try.underlying99 hi hz0 hz1 hz2 rfl (by decide) _ _ _ rfl (ho.out.alloc _) ⟨wr.heap.size, 0, none⟩ 1 1 [.int .u8 _] rfl rfl (one_new _ _) (one_cell _ _) (by unfold maxLen; omega) (by omega) (by have := hb.out.size; simp; omega) ?_; intro v2 w2 ho2 hg2 _; have ho2 := Lib.hid ho2; have hg2 := Lib.hid hg2)
      refine ⟨⟨m / 128, rfl, Left.next h hm rfl he.out hb.out ho.out _ (by have := ho2.out; rw [show ((m % 128 + 128 : Nat) : Int) = (m : Int) % 128 + 128 by omega]; exact this) hg2.out⟩, ?_⟩
      simp [intOf]; omega
end Go.Proofs.Ytnagidgffkffhaa
