/-
  CronBlanks holds: blanks ahead, behind, and one more between, change nothing; nor does the size of letters. No condition but the tables'.
-/
import Derived.Test.YtfeljdbodamflaaDoorLift
set_option linter.unusedVariables false
namespace Go.Proofs.YtfeljdbodamflaaDoor.cronBlanks
open Go.ChangeShapes Go.WideShapes Go.ChangeAt Go.RowKit Crn
open Go.ChangeMaps (open_string shut_string)

theorem info5 : (Tryd.prog.info? 5).map (fun i => (i.zero, i.size, i.bytes)) = some (some (.int .u8 0), 1, 1) := by kernel_rfl
theorem byte_new (w : World) (x : Value) : ∀ (j : Nat) (u : Value), [x][j]? = some u → (w.alloc (.cells #[x] 5)).cell? ((⟨w.heap.size, 0, none⟩ : Addr).add j) = some u := by
  intro j u hj
  match j, hj with
  | 0, hj => simp at hj; subst hj; simp [Addr.add]
theorem byte_cell (X : Int) : ∀ u ∈ [Value.int .u8 X], u.oneCell' = true := by
  intro u hu; simp at hu; subst hu; rfl
def bytesV (l : Bytes) : List Value := l.map fun a => .int .u8 (a.toNat : Nat)
theorem bytesV_append (a b : Bytes) : bytesV (a ++ b) = bytesV a ++ bytesV b := by simp [bytesV]
theorem buf_of_row {w : World} {base g n cap : Nat} {l : Bytes} (h : w.ownsRow base 5 1 (.slice (some ⟨g, 0, none⟩) n cap) n (bytesV l)) : Buf w g l := by
  refine ⟨fun j hj => ?_, fun j hj => ?_⟩
  · have hc := h.cells (g := g) rfl j (.int .u8 (l[j].toNat : Nat)) (by simp [bytesV, hj])
    have hadd : (⟨g, 0, none⟩ : Addr).add j = ⟨g, j, none⟩ := by unfold Addr.add; split <;> simp_all
    rw [hadd] at hc
    exact hc
  · rcases h.2 with ⟨h0, _⟩ | ⟨g', cap', cur, h0, _, hg, _⟩
    · cases h0
    · injection h0 with a1
      injection a1 with a1
      injection a1 with a1
      subst a1
      exact frozen_of_row w g j cur 5 hg
theorem row_slice {w : World} {base n : Nat} {v : Value} {xs : List Value} (h : w.ownsRow base 5 1 v n xs) (hn : v ≠ .slice none 0 0) : ∃ g cap, v = .slice (some ⟨g, 0, none⟩) n cap := by
  rcases h.2 with ⟨h0, _⟩ | ⟨g, cap, cur, h0, _⟩
  · exact absurd h0 hn
  · exact ⟨g, cap, h0⟩
theorem buf_step {w w2 : World} {g : Nat} {l : Bytes} (h : Buf w g l) (hg : g < w.heap.size) (k : Below w.heap.size w w2) : Buf w2 g l :=
  ⟨fun j hj => (k.cell (p := ⟨g, j, none⟩) hg).trans (h.1 j hj), fun j hj => (k.frozen (p := ⟨g, j, none⟩) hg).trans (h.2 j hj)⟩
theorem up_next (l : Bytes) (k : Nat) (h : k < l.length) : up (l.take (k + 1)) = up (l.take k) ++ (if isBlank l[k] then [32, l[k]] else [up1 l[k]]) := by
  rw [List.take_succ_eq_append_getElem h]
  unfold up
  rw [List.flatMap_append]
  simp only [List.flatMap_cons, List.flatMap_nil, List.append_nil]
theorem up_len (l : Bytes) : (up l).length ≤ 2 * l.length := by
  induction l with
  | nil => simp [up]
  | cons x s ih =>
    have : up (x :: s) = (if isBlank x then [32, x] else [up1 x]) ++ up s := by simp [up]
    rw [this, List.length_append, List.length_cons]
    split <;> simp <;> omega
theorem up1_let {x : UInt8} (h1 : 97 ≤ x.toNat) (h2 : x.toNat ≤ 122) : ((up1 x).toNat : Int) = (x.toNat : Int) - 32 := by
  have h : ∀ n : Nat, n < 256 → 97 ≤ n → n ≤ 122 → (up1 (UInt8.ofNat n)).toNat = n - 32 := by decide +kernel
  have := h x.toNat x.toNat_lt h1 h2
  rw [UInt8.ofNat_toNat] at this
  omega
theorem up1_not {x : UInt8} (h : ¬ (97 ≤ x.toNat ∧ x.toNat ≤ 122)) : up1 x = x := by
  unfold up1
  rw [if_neg (fun ⟨a, b⟩ => h ⟨by simpa using UInt8.le_iff_toNat_le.1 a, by simpa using UInt8.le_iff_toNat_le.1 b⟩)]
theorem blank_iff (x : UInt8) : isBlank x = ((x.toNat : Int) == 32 || (x.toNat : Int) == 9) := by
  have h : ∀ n : Nat, n < 256 → isBlank (UInt8.ofNat n) = ((n : Int) == 32 || (n : Int) == 9) := by decide +kernel
  have := h x.toNat x.toNat_lt
  rwa [UInt8.ofNat_toNat] at this

/-- What the loop keeps: the bytes so far. -/
structure Row (w : World) (B : Nat) (v : Value) (l : Bytes) (wr : World) : Prop where
  own : wr.ownsRow B 5 1 v l.length (bytesV l)
  some : v ≠ .slice none 0 0
  below : Below w.heap.size w wr

set_option maxRecDepth 100000 in
set_option maxHeartbeats 2000000 in
theorem walk_core (s : ByteArray) (x0 x1 x2 x3 x4 : Nat) (x5 x6 : Bool) (x7 er : Int) (w : World) (tb : Tab w) (hs : s.size ≤ 100)
    (C : Hid (∀ W, Tab W → Calls Tryd.prog 11 #[.string s] W fun e w' => e = .returned (.tuple #[.agg #[.int .u64 x0, .int .u64 x1, .int .u64 x2, .int .u64 x3, .int .u64 x4, .bool x5, .bool x6, .int .i64 x7], .int .i64 er]) ∧ Below W.heap.size W w'))
    (D : Hid (∀ W, Tab W → Calls Tryd.prog 11 #[.string (bs [32] ++ bs (up s.data.toList) ++ bs [9])] W fun e w' => e = .returned (.tuple #[.agg #[.int .u64 x0, .int .u64 x1, .int .u64 x2, .int .u64 x3, .int .u64 x4, .bool x5, .bool x6, .int .i64 x7], .int .i64 er]) ∧ Below W.heap.size W w')) :
    Calls Tryd.prog 7 #[.string s] w fun e w' => e = .returned (.bool true) ∧ Below w.heap.size w w' := by
  have ca := Lib.hid (awake_any w tb)
  have el : decide (100 < (s.size : Int)) = false := by simp; omega
  obtain ⟨i0, hi, hz0, hz1, hz2⟩ := info_parts info5
  have hlen : s.data.toList.length = s.size := by simp
  go_enter Tryd.func7, Tryd.ntmps7
  go_wp2_with fail
  refine ca.out.mono ?_
  rintro e w1 ⟨rfl, k1⟩
  have r1 : Hid (Row w w1.heap.size (.slice (some ⟨w1.heap.size, 0, none⟩) 0 0) [] (w1.alloc (.cells #[] 5))) := ⟨World.ownsRow_made w1 #[] 0 (Nat.le_refl _) (Nat.zero_le _) rfl, by simp, k1.alloc k1.size _⟩
  have hT : Hid (∀ W, Below w.heap.size w W → Tab W) := fun W k => tb.below k
  have hB : w.heap.size ≤ w1.heap.size := k1.size
  clear k1 tb ca el
  go_wp2_with fail
  generalize w1.alloc (.cells #[] 5) = w2 at *
  generalize hBe : w1.heap.size = B at *
  clear hBe
  go_loopw [3, 21] (fun v i wr => ∃ k : Nat, ∃ l : Bytes, k ≤ s.size ∧ l.length ≤ 2 * k ∧ i = .int .i64 k ∧ Hid (l = up (s.data.toList.take k)) ∧ Hid (Row w B v l wr) ∧ Hid (B ≤ wr.heap.size)) (fun _ i _ => s.size - (intOf i).toNat)
  case atStart => exact ⟨0, [], by omega, Nat.le_refl _, rfl, rfl, r1, by
    have := r1.out.own.lt B rfl
    exact Nat.le_of_lt this.2⟩
  case round =>
    obtain ⟨k, l, hk, hll, rfl, hl, hr, hBs⟩ := hrel
    have ho := Lib.hid hr.out.own
    have hb := Lib.hid hr.out.below
    have hns := Lib.hid hr.out.some
    have hBz := hBs.out
    clear r1
    by_cases hlt : k < s.size
    · have hkl : k < s.data.toList.length := by omega
      have hun := Lib.hid (up_next s.data.toList k hkl)
      have hget : s[k]'hlt = s.data.toList[k] := rfl
      have hbl := blank_iff s.data.toList[k]
      have hle := Lib.hid (@up1_let s.data.toList[k])
      have hno := Lib.hid (@up1_not s.data.toList[k])
      rw [← hget] at hun hbl hle hno
      have hx := UInt8.toNat_lt (s[k]'hlt)
      generalize hgx : s[k]'hlt = x at *
      by_cases h32 : x.toNat = 32
      · have e1 : ((x.toNat : Int) == 32) = true := by simp; omega
        have hfin : Hid (l ++ [32] ++ [x] = up (s.data.toList.take (k + 1))) := by
          rw [hun.out, hbl, e1, hl.out]
          simp
          exact trivial
        have hxv : Hid ((x.toNat : Int) = 32) := by rw [h32]; exact rfl
        clear h32 hbl hle hno hun hget
        have g1 : decide (97 ≤ (x.toNat : Int)) = false := by have := hxv.out; simp; omega
        replace g1 := Lib.hid g1
        go_upto_region 10 with (at_builtin; refine wpList_append_own _ rfl _ _ 37 rfl B 5 i0 (.int .u8 0) 1 1 Tryd.underlying37 hi hz0 hz1 hz2 rfl (by decide) _ _ _ rfl (ho.out.alloc _) ⟨wr.heap.size, 0, none⟩ 1 1 [.int .u8 _] rfl rfl (byte_new _ _) (byte_cell _) (by unfold maxLen; omega) (by omega) (by have := hb.out.size; have := hB; simp; omega) ?_; intro v2 w2 ho2 hg2 hn2; have ho2 := Lib.hid ho2; have hg2 := Lib.hid hg2; replace hn2 := Lib.hid hn2)
        have hb2 := Lib.hid ((hb.out.alloc hb.out.size (.cells #[.int .u8 32] 5)).grown hg2.out (by have := hb.out.size; simp; omega) (fun k hk => Nat.le_trans hB (ho.out.lt k hk).1))
        have hBz2 : B ≤ w2.heap.size := by have := hg2.out.size; simp at this; omega
        have g1' := g1.out
        have e4 : u3 ≠ .slice none 0 0 := hns.out
        clear ho hb hg2 hr
        replace e4 := Lib.hid e4
        go_wp2_with (at_builtin; refine wpList_append_own _ rfl _ _ 37 rfl B 5 i0 (.int .u8 0) 1 1 Tryd.underlying37 hi hz0 hz1 hz2 rfl (by decide) _ _ _ rfl (ho2.out.alloc _) ⟨w2.heap.size, 0, none⟩ 1 1 [.int .u8 _] rfl rfl (byte_new _ _) (byte_cell _) (by unfold maxLen; omega) (by omega) (by have := hb2.out.size; have := hB; simp; omega) ?_; intro v3 w3 ho3 hg3 hn3; have ho3 := Lib.hid ho3; have hg3 := Lib.hid hg3; replace hn3 := Lib.hid hn3)
        refine ⟨⟨k + 1, l ++ [32] ++ [x], by omega, by simp; omega, by go_num, hfin, ⟨?_, ?_, ?_⟩, ?_⟩, by simp [intOf]; omega⟩
        · rw [bytesV_append, bytesV_append, List.length_append, List.length_append]; exact ho3.out
        · intro e; exact e4.out (hn2.out.1 (hn3.out.1 e).1).1
        · exact (hb2.out.alloc hb2.out.size _).grown hg3.out (by have := hb2.out.size; simp; omega) (fun k hk => Nat.le_trans hB (ho2.out.lt k hk).1)
        · have := hg3.out.size; simp at this; show B ≤ _; omega
      · have e1 : ((x.toNat : Int) == 32) = false := by simp; omega
        by_cases h9 : x.toNat = 9
        · have e2 : ((x.toNat : Int) == 9) = true := by simp; omega
          have hfin : Hid (l ++ [32] ++ [x] = up (s.data.toList.take (k + 1))) := by
            rw [hun.out, hbl, e1, e2, hl.out]
            simp
            exact trivial
          have g1 : decide (97 ≤ (x.toNat : Int)) = false := by simp; omega
          clear h32 h9 hbl hle hno hun hget
          replace g1 := Lib.hid g1
          go_upto_region 10 with (at_builtin; refine wpList_append_own _ rfl _ _ 37 rfl B 5 i0 (.int .u8 0) 1 1 Tryd.underlying37 hi hz0 hz1 hz2 rfl (by decide) _ _ _ rfl (ho.out.alloc _) ⟨wr.heap.size, 0, none⟩ 1 1 [.int .u8 _] rfl rfl (byte_new _ _) (byte_cell _) (by unfold maxLen; omega) (by omega) (by have := hb.out.size; have := hB; simp; omega) ?_; intro v2 w2 ho2 hg2 hn2; have ho2 := Lib.hid ho2; have hg2 := Lib.hid hg2; replace hn2 := Lib.hid hn2)
          have hb2 := Lib.hid ((hb.out.alloc hb.out.size (.cells #[.int .u8 32] 5)).grown hg2.out (by have := hb.out.size; simp; omega) (fun k hk => Nat.le_trans hB (ho.out.lt k hk).1))
          have hBz2 : B ≤ w2.heap.size := by have := hg2.out.size; simp at this; omega
          have g1' := g1.out
          have e4 : u3 ≠ .slice none 0 0 := hns.out
          clear ho hb hg2 hr
          replace e4 := Lib.hid e4
          go_wp2_with (at_builtin; refine wpList_append_own _ rfl _ _ 37 rfl B 5 i0 (.int .u8 0) 1 1 Tryd.underlying37 hi hz0 hz1 hz2 rfl (by decide) _ _ _ rfl (ho2.out.alloc _) ⟨w2.heap.size, 0, none⟩ 1 1 [.int .u8 _] rfl rfl (byte_new _ _) (byte_cell _) (by unfold maxLen; omega) (by omega) (by have := hb2.out.size; have := hB; simp; omega) ?_; intro v3 w3 ho3 hg3 hn3; have ho3 := Lib.hid ho3; have hg3 := Lib.hid hg3; replace hn3 := Lib.hid hn3)
          refine ⟨⟨k + 1, l ++ [32] ++ [x], by omega, by simp; omega, by go_num, hfin, ⟨?_, ?_, ?_⟩, ?_⟩, by simp [intOf]; omega⟩
          · rw [bytesV_append, bytesV_append, List.length_append, List.length_append]; exact ho3.out
          · intro e; exact e4.out (hn2.out.1 (hn3.out.1 e).1).1
          · exact (hb2.out.alloc hb2.out.size _).grown hg3.out (by have := hb2.out.size; simp; omega) (fun k hk => Nat.le_trans hB (ho2.out.lt k hk).1)
          · have := hg3.out.size; simp at this; show B ≤ _; omega
        · have e2 : ((x.toNat : Int) == 9) = false := by simp; omega
          have hf1 : Hid (l ++ [up1 x] = up (s.data.toList.take (k + 1))) := by
            rw [hun.out, hbl, e1, e2, hl.out]
            simp
            exact trivial
          clear h32 h9 hbl hun hget
          by_cases g1 : 97 ≤ x.toNat
          · by_cases g2 : x.toNat ≤ 122
            · have hv := Lib.hid (hle.out g1 g2)
              clear hle hno
              go_wp2_with (at_builtin; refine wpList_append_own _ rfl _ _ 37 rfl B 5 i0 (.int .u8 0) 1 1 Tryd.underlying37 hi hz0 hz1 hz2 rfl (by decide) _ _ _ rfl (ho.out.alloc _) ⟨wr.heap.size, 0, none⟩ 1 1 [.int .u8 _] rfl rfl (byte_new _ _) (byte_cell _) (by unfold maxLen; omega) (by omega) (by have := hb.out.size; have := hB; simp; omega) ?_; intro v2 w2 ho2 hg2 hn2; have ho2 := Lib.hid ho2; have hg2 := Lib.hid hg2; replace hn2 := Lib.hid hn2)
              refine ⟨⟨k + 1, l ++ [up1 x], by omega, by simp; omega, by go_num, hf1, ⟨?_, ?_, ?_⟩, ?_⟩, by simp [intOf]; omega⟩
              · rw [bytesV_append, List.length_append]
                have := ho2.out
                rw [← hv.out] at this
                exact this
              · intro e; exact hns.out (hn2.out.1 e).1
              · exact (hb.out.alloc hb.out.size _).grown hg2.out (by have := hb.out.size; simp; omega) (fun k hk => Nat.le_trans hB (ho.out.lt k hk).1)
              · have := hg2.out.size; simp at this; show B ≤ _; omega
            · have hv := Lib.hid (hno.out (by omega))
              rw [hv.out] at hf1
              clear hle hno
              go_wp2_with (at_builtin; refine wpList_append_own _ rfl _ _ 37 rfl B 5 i0 (.int .u8 0) 1 1 Tryd.underlying37 hi hz0 hz1 hz2 rfl (by decide) _ _ _ rfl (ho.out.alloc _) ⟨wr.heap.size, 0, none⟩ 1 1 [.int .u8 _] rfl rfl (byte_new _ _) (byte_cell _) (by unfold maxLen; omega) (by omega) (by have := hb.out.size; have := hB; simp; omega) ?_; intro v2 w2 ho2 hg2 hn2; have ho2 := Lib.hid ho2; have hg2 := Lib.hid hg2; replace hn2 := Lib.hid hn2)
              refine ⟨⟨k + 1, l ++ [x], by omega, by simp; omega, by go_num, hf1, ⟨?_, ?_, ?_⟩, ?_⟩, by simp [intOf]; omega⟩
              · rw [bytesV_append, List.length_append]; exact ho2.out
              · intro e; exact hns.out (hn2.out.1 e).1
              · exact (hb.out.alloc hb.out.size _).grown hg2.out (by have := hb.out.size; simp; omega) (fun k hk => Nat.le_trans hB (ho.out.lt k hk).1)
              · have := hg2.out.size; simp at this; show B ≤ _; omega
          · have hv := Lib.hid (hno.out (by omega))
            rw [hv.out] at hf1
            clear hle hno
            go_wp2_with (at_builtin; refine wpList_append_own _ rfl _ _ 37 rfl B 5 i0 (.int .u8 0) 1 1 Tryd.underlying37 hi hz0 hz1 hz2 rfl (by decide) _ _ _ rfl (ho.out.alloc _) ⟨wr.heap.size, 0, none⟩ 1 1 [.int .u8 _] rfl rfl (byte_new _ _) (byte_cell _) (by unfold maxLen; omega) (by omega) (by have := hb.out.size; have := hB; simp; omega) ?_; intro v2 w2 ho2 hg2 hn2; have ho2 := Lib.hid ho2; have hg2 := Lib.hid hg2; replace hn2 := Lib.hid hn2)
            refine ⟨⟨k + 1, l ++ [x], by omega, by simp; omega, by go_num, hf1, ⟨?_, ?_, ?_⟩, ?_⟩, by simp [intOf]; omega⟩
            · rw [bytesV_append, List.length_append]; exact ho2.out
            · intro e; exact hns.out (hn2.out.1 e).1
            · exact (hb.out.alloc hb.out.size _).grown hg2.out (by have := hb.out.size; simp; omega) (fun k hk => Nat.le_trans hB (ho.out.lt k hk).1)
            · have := hg2.out.size; simp at this; show B ≤ _; omega
    · have hle : Hid (l = up s.data.toList) := by
        rw [hl.out, List.take_of_length_le (by omega)]
        exact rfl
      obtain ⟨g, cap, rfl⟩ := row_slice ho.out hns.out
      have hbuf := buf_of_row ho.out
      have hg := (ho.out.lt g rfl).2
      have hl2 : (bs l).size = l.length := bs_size l
      rw [← hle.out] at D
      have c1 := Lib.hid (C.out _ (hT.out _ hb.out))
      replace hbuf := Lib.hid hbuf
      clear ho hr hl hle
      go_wp2_with fail
      refine c1.out.mono ?_
      rintro e w3 ⟨rfl, k3⟩
      have kk := (Below.refl w3.heap.size w3).alloc (Nat.le_refl _) (.cells #[.int .u64 x0, .int .u64 x1, .int .u64 x2, .int .u64 x3, .int .u64 x4, .bool x5, .bool x6, .int .i64 x7] 25)
      have b3 := Lib.hid (hb.out.trans ((k3.trans (kk.mono k3.size)).mono hb.out.size))
      have L3 := Lib.hid (Lies.start w3 [.int .u64 x0, .int .u64 x1, .int .u64 x2, .int .u64 x3, .int .u64 x4, .bool x5, .bool x6, .int .i64 x7] 25 #[.int .u64 x0, .int .u64 x1, .int .u64 x2, .int .u64 x3, .int .u64 x4, .bool x5, .bool x6, .int .i64 x7] rfl)
      have hcv := (buf_step (buf_step hbuf.out hg k3) (Nat.lt_of_lt_of_le hg k3.size) kk).text l.length cap rfl
      have c2 := Lib.hid (D.out _ (hT.out _ b3.out))
      have y1 : ¬ 9223372036854775807 < (bs [32]).size + (bs l).size := by simp only [bs_size]; simp; omega
      have y2 : ¬ 9223372036854775807 < (bs [32] ++ bs l).size + (bs [9]).size := by simp only [ByteArray.size_append, bs_size]; simp; omega
      clear k3 kk hb hbuf c1 hg
      generalize bs l = T at *
      go_wp2_with fail
      refine c2.out.mono ?_
      clear hcv
      generalize w3.alloc (.cells #[.int .u64 x0, .int .u64 x1, .int .u64 x2, .int .u64 x3, .int .u64 x4, .bool x5, .bool x6, .int .i64 x7] 25) = w4 at *
      generalize w3.heap.size = gx at *
      rintro e w5 ⟨rfl, k5⟩
      have b5 := Lib.hid (b3.out.trans (k5.mono b3.out.size))
      have b6 := Lib.hid (b5.out.alloc b5.out.size (.cells #[.int .u64 x0, .int .u64 x1, .int .u64 x2, .int .u64 x3, .int .u64 x4, .bool x5, .bool x6, .int .i64 x7] 25))
      obtain ⟨p0, p1, p2, p3, p4, p5, p6, p7⟩ := ((L3.out.step (Nat.zero_lt_succ _) k5).step (Nat.zero_lt_succ _) ((Below.refl w5.heap.size w5).alloc (Nat.le_refl _) (.cells #[.int .u64 x0, .int .u64 x1, .int .u64 x2, .int .u64 x3, .int .u64 x4, .bool x5, .bool x6, .int .i64 x7] 25))).eight
      clear k5 b3 b5 L3 c2
      go_wp2_with fail
      go_ret
      exact ⟨rfl, b6.out⟩

set_option maxRecDepth 100000 in
theorem walk (s : ByteArray) (_ : s.size ≤ maxLen) (w : World) (tb : Tab w) :
    Calls Tryd.prog 7 #[.string s] w fun e w' => e = .returned (.bool true) ∧ Below w.heap.size w w' := by
  by_cases hs : s.size ≤ 100
  · have hlen : s.data.toList.length = s.size := by simp
    have c := Lib.hid (fun W t => cParse_any s W t (by omega))
    have hul := up_len s.data.toList
    have d := Lib.hid (fun W t => cParse_any (bs [32] ++ bs (up s.data.toList) ++ bs [9]) W t (by rw [bs_append, bs_append, bs_size]; simp; omega))
    have hq : parse (bs [32] ++ bs (up s.data.toList) ++ bs [9]).data.toList = parse s.data.toList := by
      rw [bs_append, bs_append, bs_toList]
      exact parse_up s.data.toList (by omega)
    rw [hq] at d
    cases hp : parse s.data.toList with
    | none =>
      rw [hp] at c d
      exact walk_core s 0 0 0 0 0 false false 0 7 w tb hs c d
    | some x =>
      rw [hp] at c d
      exact walk_core s x.min x.hour x.dom x.mon x.dow x.anyDom x.anyDow x.ahead 0 w tb hs c d
  · have ca := Lib.hid (fun W t => awake_any W t)
    have el : decide (100 < (s.size : Int)) = true := by simp; omega
    have c0 := Lib.hid (ca.out w tb)
    go_enter Tryd.func7, Tryd.ntmps7
    go_wp2_with fail
    refine c0.out.mono ?_
    rintro e w1 ⟨rfl, k1⟩
    have c1 := Lib.hid (ca.out w1 (tb.below k1))
    replace k1 := Lib.hid k1
    clear tb
    go_wp2_with fail
    refine c1.out.mono ?_
    rintro e w2 ⟨rfl, k2⟩
    replace k2 := Lib.hid k2
    go_wp2_with fail
    go_ret
    exact ⟨rfl, k1.out.trans (k2.out.mono k1.out.size)⟩

set_option maxRecDepth 100000 in
theorem contract (H : Type) (enc : TypeId × Value → H) (W : World) (base : Nat) (args : Array Value) (ds gs : List (DataW H)) (before : List MemPlace)
    (hval : ∀ (j : Nat) t v, Tryd.f7.params[j]? = some t → args[j]? = some v → Value.okWide Tryd.prog W .any base t v)
    (hW : DataW.Whole enc Tryd.prog Tryd.f7.params.toList Rows.cronBlanksSpec.vars false W args.toList ds gs before) (hL : laidMetH Tryd.prog Rows.cronBlanksRow.laid W) (hS : W.ShapedOpen Tryd.prog) :
    Calls Tryd.prog 7 args W fun e W' => ∃ v, e = .returned v ∧ Rows.cronBlanksSpec.post enc Tryd.prog Tryd.f7 false true false false W args v W' := by
  have hW' := hW
  obtain ⟨p, q, hA0, hV, rfl, hfz, hnd⟩ := hW
  have hA : DataW.TrodAll enc Tryd.prog W 0 (fun _ => true) true Tryd.f7.params.toList args.toList ds p := hA0
  rw [Tryd.params7] at hA hval
  obtain ⟨v0, vs0, d0, ds0, p0, q0, hargs, rfl, rfl, h0, r0⟩ := trodAll_cons hA
  obtain ⟨rfl, rfl, rfl⟩ := trodAll_nil r0
  obtain rfl : args = #[v0] := by clear hL hS hW' hval; cases args; simp_all
  obtain ⟨rfl, rfl⟩ := trodVars_none hV
  obtain ⟨a0, rfl, rfl, rfl, w0⟩ := open_string Tryd.underlying9 (hval 0 9 v0 rfl rfl) h0
  clear hA0
  simp only [List.append_nil] at hW'
  refine (walk a0 w0 W (table hL hS)).mono fun e W' ⟨he, hg⟩ => ?_
  subst he
  exact ⟨_, rfl, _, _, _, [], [], [], hW', trodAll_cons_mk (shut_bool Tryd.underlying4 _) trodAll_mk0, trodAll_cons_mk (shut_string Tryd.underlying9 w0) trodAll_mk0, rfl, hg.frame _, fun h => by cases h⟩

theorem reads (os : Os) {H : Type} (enc : TypeId × Value → H) : ∃ places, DataW.whole enc Tryd.prog ((laidWorld os).forCall (fun _ _ => 0) ⟨#[], #[.string ByteArray.empty], []⟩).memory Tryd.f7.params.toList Rows.cronBlanksSpec.vars false (#[.string ByteArray.empty] : Array Value).toList 8 = some ([.lit (.string [])], [], places) :=
  ⟨[], by kernel_rfl⟩

set_option maxRecDepth 100000 in
theorem lifted (os : Os) (started : os.Started) (H : Type) (enc : TypeId × Value → H) (F : Stop.Interp) :
    ReturnsInHanded {} Tryd.checked os 7 .any ((OpenSpec.ofChange Rows.cronBlanksSpec).preRow enc Tryd.prog Tryd.f7 Rows.cronBlanksRow.domain false Rows.cronBlanksRow.laid) (((OpenSpec.ofChange Rows.cronBlanksSpec).at F).post enc Tryd.prog Tryd.f7 false true false false) := by
  obtain ⟨places, hx⟩ := reads os enc
  refine returnsInHanded_of_row (C := Tryd.checked) (s := OpenSpec.ofChange Rows.cronBlanksSpec) own started (by kernel_rfl) Tryd.func7
    (witness_row_at (enc := enc) (C := Tryd.checked) false (laidWorld os) #[.string ByteArray.empty] (World.laidAll_os _ _ _) (by kernel_rfl) (by kernel_rfl) (by kernel_rfl)
      (OpenSpec.preRow_of_cond 8 hx (by kernel_rfl) (fun k hk => by cases hk) (by kernel_rfl) (laid_met os _))) ?_
  intro W base args ds gs before hval hW _ _ _ hL hS _
  exact contract H enc W base args ds gs before hval hW hL hS

theorem said : Rows.CronBlanksSaid :=
  OpenClaim.holds_of_cond 7 Tryd.f7 rfl rfl rfl rfl rfl rfl rfl ⟨rfl, rfl, rfl, rfl, rfl⟩ rfl rfl rfl rfl rfl (by kernel_rfl) Tryd.func7 (by kernel_rfl)
    (of_decide_eq_true (by kernel_rfl)) (by unfold Func.isWrapper; first | (rw [if_pos (by decide +kernel)]; kernel_rfl) | (rw [if_neg (by decide +kernel)]; exact ⟨rfl, rfl⟩))
    (fun os started H enc _ F => by rw [OpenClaim.pre_eq_preRow]; exact lifted os started H enc F)

theorem plain (f : FuncId) (fn : Func) (hf : Tryd.pinned.checked.prog.funcNamed "tompion/tompionlaw04.CronBlanks" = some f) (hfn : Tryd.pinned.checked.prog.funcs[f]? = some fn) :
    false = Tryd.pinned.checked.prog.looks [] ∧ ∀ (j : Nat) t, fn.params[j]? = some t → Tryd.pinned.checked.prog.wantsStandIn t = false := by
  obtain rfl : f = 7 := Option.some.inj ((show Tryd.prog.funcNamed "tompion/tompionlaw04.CronBlanks" = some 7 by kernel_rfl).symm.trans hf) |>.symm
  obtain rfl : fn = Tryd.f7 := (Option.some.inj (Tryd.func7.symm.trans hfn)).symm
  refine ⟨by kernel_rfl, fun j t ht => ?_⟩
  rw [Tryd.params7] at ht
  obtain rfl : t = 9 := by simpa using Array.mem_of_getElem? ht
  exact (show Tryd.prog.wantsStandIn 9 = false by kernel_rfl)

/-- The statement: the card, its tables tied to the program's text. -/
theorem proved : Rows.CronBlanksCardSaid :=
  Claim7.holds_tied_plain_at .later [] _ _ _ _ said (fun _ h => by cases h) (by kernel_rfl) (fun _ h => by cases h) cronBlanks_row_tie rfl ⟨rfl, rfl⟩ (by kernel_rfl) rfl plain (by kernel_rfl)
#print axioms proved
end Go.Proofs.YtfeljdbodamflaaDoor.cronBlanks
