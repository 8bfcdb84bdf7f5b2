/-
  stable.Log's All, Recover and Copy, and the methods of none.
-/
import Derived.Test.YtdkdkkledlolcaaSOps
import Derived.Laws.CopyOwn
namespace Go.Proofs.Ytdkdkkledlolcaa
open Go.RowKit
set_option maxRecDepth 100000
variable {base : Nat}

theorem nil_bytes {S : ByteArray} (h : S.size = 0) : S = ByteArray.empty := by
  apply D.text_inj
  have : D.bytesOf S = [] := List.length_eq_zero_iff.1 (by rw [D.bytesOf_len]; exact h)
  rw [this]; rfl
theorem strOf_ints (S : ByteArray) : strOfNums (S.data.toList.map fun u => (u.toNat : Int)) = S := by
  apply WideShapes.bytes_inj
  rw [strOfNums_data, List.map_map]
  refine (List.map_congr_left fun u _ => ?_).trans (List.map_id _)
  simp

/-- string(l.bytes). -/
theorem bytes_string {w : World} {S : ByteArray} {p : Option Addr} {cap : Nat} (o : w.ownsRow base 5 1 (.slice p S.size cap) S.size (Lib.strCells S)) : (convert 47 9 (.slice p S.size cap)).run Try.prog w = .ok (.string S) w := by
  rcases o.2 with ⟨h, h0⟩ | ⟨g, cap', cur, h, _, hg, _, _, _, ht⟩
  · injection h with h1 h2 h3
    subst h1
    rw [run_convert_bytes_nil w 47 5 Try.underlying47 Try.underlying5 _ _ 9 Try.underlying9, nil_bytes h0]
  · injection h with h1 h2 h3
    subst h1; subst h3
    have hr := run_convert_bytes_arg w 47 5 Try.underlying47 Try.underlying5 g 0 S.size cap (S.data.toList.map fun u => (u.toNat : Int)) (by simp) (fun i hi => ?_) 9 Try.underlying9
    · rw [strOf_ints] at hr; exact hr
    · have hc := World.ownsRow.cells o (g := g) rfl i (.int .u8 ((S.data.toList.map fun u => (u.toNat : Int)).getD i 0)) (by
        have hi2 : i < S.data.toList.length := by simpa using hi
        simp [Lib.strCells, List.getD, List.getElem?_map, List.getElem?_eq_getElem hi2])
      have hadd : (⟨g, 0, none⟩ : Addr).add i = ⟨g, 0 + i, none⟩ := by unfold Addr.add; split <;> simp_all
      rw [hadd] at hc
      exact hc

theorem all_any (w : World) (b : Nat) (S Q : ByteArray) (l : List ByteArray) (torn : Bool) (p : Option Addr) (cap : Nat) (t : Lg base w b S torn p cap) (hl : S = cat l ++ Q) (hQ : NoRec Q) :
    Calls Try.prog 20 #[.pointer (some ⟨b, 0, none⟩)] w fun e w' => ∃ v, e = .returned v ∧ Row w' w.heap.size v l ∧ Below w.heap.size w w' := by
  have c0 := t.c0
  have hcv := bytes_string t.own
  have hsc := Lib.hid (scan_any S Q l w (by have := t.sz; omega) hl hQ)
  replace t := Lib.hid t
  clear hl hQ
  generalize (cat l).size = n at *
  go_enter Try.func20, Try.ntmps20
  go_wp2_with fail
  refine hsc.out.mono ?_
  rintro e w1 ⟨v, rfl, o1, b1⟩
  replace o1 := Lib.hid o1
  replace b1 := Lib.hid b1
  clear hcv c0
  go_wp2_with fail
  go_ret
  exact ⟨v, rfl, o1.out, b1.out⟩

theorem cat_strCells (l : List ByteArray) (Q : ByteArray) : (Lib.strCells (cat l ++ Q)).take (cat l).size = Lib.strCells (cat l) := by
  rw [strCells_app, List.take_left' (Lib.strCells_length _)]
theorem own_cut {w : World} {e n m cap : Nat} {p : Option Addr} {xs : List Value} (o : w.ownsRow base e 1 (.slice p n cap) n xs) (h : m ≤ n) : w.ownsRow base e 1 (.slice p m cap) m (xs.take m) := by
  have hl : xs.length = n := by simpa using o.1
  refine ⟨by rw [List.length_take, hl]; omega, ?_⟩
  rcases o.2 with ⟨h1, h2⟩ | ⟨g, cap', cur, h1, hb, hg, hn, hc, hs, ht⟩
  · injection h1 with a1 a2 a3
    subst a1; subst a3
    have : m = 0 := by omega
    subst this
    exact Or.inl ⟨rfl, rfl⟩
  · injection h1 with a1 a2 a3
    subst a1; subst a3
    refine Or.inr ⟨g, cap, cur, rfl, hb, hg, by omega, hc, hs, ?_⟩
    rw [← ht, List.take_take]; congr 1; omega

set_option maxHeartbeats 800000 in
theorem recover_any (w : World) (b : Nat) (S Q : ByteArray) (l : List ByteArray) (torn : Bool) (p : Option Addr) (cap : Nat) (t : Lg base w b S torn p cap) (hl : S = cat l ++ Q) (hQ : NoRec Q) :
    Calls Try.prog 15 #[.pointer (some ⟨b, 0, none⟩)] w fun e w' => ∃ v, e = .returned v ∧ Row w' w.heap.size v l ∧ Lg base w' b (cat l) false p cap ∧ D.Kept b w w' := by
  have c0 := t.c0
  have hcv := bytes_string t.own
  have hsc := Lib.hid (scan_any S Q l w (by have := t.sz; omega) hl hQ)
  have hle : (cat l).size ≤ S.size := by rw [hl, D.size_append']; omega
  have hoc : Hid (∀ W, Lg base W b S torn p cap → W.ownsRow base 5 1 (.slice p (cat l).size cap) (cat l).size (Lib.strCells (cat l))) := fun W T => by
    have := own_cut T.own hle
    rw [hl] at this
    rw [cat_strCells] at this
    exact this
  have hcap : S.size ≤ cap := by
    rcases t.own.2 with ⟨h1, h2⟩ | ⟨g, cap', cur, h1, _, _, hn, _⟩
    · omega
    · injection h1 with a1 a2 a3; omega
  have hcm : cap ≤ maxLen := by
    rcases t.own.2 with ⟨h1, h2⟩ | ⟨g, cap', cur, h1, _, _, hn, hc, _⟩
    · injection h1 with a1 a2 a3; rw [a3]; unfold maxLen; omega
    · injection h1 with a1 a2 a3; rw [a3]; exact hc
  have hsz := t.sz
  have hp : p = none ∧ cap = 0 ∨ ∃ g, p = some ⟨g, 0, none⟩ := by
    rcases t.own.2 with ⟨h1, h2⟩ | ⟨g, cap', cur, h1, _⟩
    · injection h1 with a1 a2 a3; exact Or.inl ⟨a1, a3⟩
    · injection h1 with a1 a2 a3; exact Or.inr ⟨g, a1⟩
  replace t := Lib.hid t
  clear hl hQ
  obtain ⟨n, hn⟩ : ∃ n, (cat l).size = n := ⟨_, rfl⟩
  have hn0 := Lib.hid hn
  rw [hn] at hsc hle hoc
  clear hn
  unfold maxLen at hcm
  have h1 : (n : Int) ≤ (cap : Int) := by omega
  have h2 : (0 : Int) ≤ (n : Int) := by omega
  rcases hp with ⟨rfl, rfl⟩ | ⟨g, rfl⟩
  · obtain rfl : n = 0 := by omega
    go_enter Try.func15, Try.ntmps15
    go_wp2_with fail
    refine hsc.out.mono ?_
    rintro e w1 ⟨v, rfl, o1, b1⟩
    have t1 := t.out.below b1
    have c01 := t1.c0
    have f01 := t1.fz 0
    have t2 := Lg.set (p := none) (n := 0) (cap := 0) (S := cat l) t1.blk (hoc.out w1 t1) hn0.out.symm (by rw [hn0.out]; omega) t1.hb
    have c12 := t2.c1
    have f12 := t2.fz 1
    have t3 := Lib.hid (t2.setTorn false)
    have k3 : Hid (D.Kept b w ((w1.setCell ⟨b, 0, none⟩ (.slice none 0 0)).setCell ⟨b, 1, none⟩ (.bool false))) := ((D.Kept.ofBelow b1).setCell _ _).setCell _ _
    have hvb : v.ownBlock ≠ some b := fun e => by have := (own_lt o1 e).1; have := t.out.lt; omega
    have o3 : Hid (Row ((w1.setCell ⟨b, 0, none⟩ (.slice none 0 0)).setCell ⟨b, 1, none⟩ (.bool false)) w.heap.size v l) := own_same o1 fun g hg => by
      have : g ≠ b := fun e => hvb (e ▸ hg)
      rw [Below.heap_setCell _ _ _ _ this, Below.heap_setCell _ _ _ _ this]
    clear hcv c0 t1 b1 o1 t2 hvb hsc
    go_wp2_with fail
    go_ret
    exact ⟨v, rfl, o3.out, t3.out, k3.out⟩
  · go_enter Try.func15, Try.ntmps15
    go_wp2_with fail
    refine hsc.out.mono ?_
    rintro e w1 ⟨v, rfl, o1, b1⟩
    have t1 := t.out.below b1
    have c01 := t1.c0
    have f01 := t1.fz 0
    have t2 := Lg.set (p := some ⟨g, 0, none⟩) (n := n) (cap := cap) (S := cat l) t1.blk (hoc.out w1 t1) hn0.out.symm (by rw [hn0.out]; omega) t1.hb
    have c12 := t2.c1
    have f12 := t2.fz 1
    have t3 := Lib.hid (t2.setTorn false)
    have k3 : Hid (D.Kept b w ((w1.setCell ⟨b, 0, none⟩ (.slice (some ⟨g, 0, none⟩) n cap)).setCell ⟨b, 1, none⟩ (.bool false))) := ((D.Kept.ofBelow b1).setCell _ _).setCell _ _
    have hvb : v.ownBlock ≠ some b := fun e => by have := (own_lt o1 e).1; have := t.out.lt; omega
    have o3 : Hid (Row ((w1.setCell ⟨b, 0, none⟩ (.slice (some ⟨g, 0, none⟩) n cap)).setCell ⟨b, 1, none⟩ (.bool false)) w.heap.size v l) := own_same o1 fun g hg => by
      have : g ≠ b := fun e => hvb (e ▸ hg)
      rw [Below.heap_setCell _ _ _ _ this, Below.heap_setCell _ _ _ _ this]
    clear hcv c0 t1 b1 o1 t2 hvb hsc
    go_wp2_with fail
    go_ret
    exact ⟨v, rfl, o3.out, t3.out, k3.out⟩

theorem make47 (n : Nat) (h : n ≤ 65536) (W : World) : (Instr.makeSlice 47 (.int .i64 (n : Int)) (.int .i64 (n : Int))).run Try.prog W = .ok (.slice (some ⟨W.heap.size, 0, none⟩) n n) (W.alloc (.cells (madeCells #[.int .u8 0] n) 5)) := by
  obtain ⟨i0, hi, hz0, hz1, hz2⟩ := info_parts Try.info5
  have := run_makeSlice (P := Try.prog) W 47 5 i0 (.int .u8 0) Try.underlying47 hi hz0 .i64 .i64 n n (by omega) (Int.le_refl _) (by rw [hz1]; omega) (by rw [hz2]; omega) (by omega)
  rw [hz1, show (Value.int .u8 0).cells = #[.int .u8 0] from rfl] at this
  simpa using this

set_option maxHeartbeats 800000 in
theorem copy_any (w : World) (b : Nat) (S : ByteArray) (torn : Bool) (p : Option Addr) (cap : Nat) (t : Lg base w b S torn p cap) :
    Calls Try.prog 17 #[.pointer (some ⟨b, 0, none⟩)] w fun e w' => ∃ c, e = .returned (.pointer (some ⟨c, 0, none⟩)) ∧ w.heap.size ≤ c ∧ (∃ p' cap', Lg w.heap.size w' c S torn p' cap') ∧ Below w.heap.size w w' := by
  have c0 := t.c0
  have hsz := t.sz
  have hmk := make47 S.size hsz w
  have hk1 : Below w.heap.size w (w.alloc (.cells (madeCells #[.int .u8 0] S.size) 5)) := (Below.refl _ _).alloc (Nat.le_refl _) _
  have c01 := (t.below hk1).c0
  have hsrc : Hid (0 < (Lib.strCells S).length → (some (⟨w.heap.size, 0, none⟩ : Addr)) = some ⟨w.heap.size, 0, none⟩ ∧ ∃ ad, p = some ad ∧ ∀ j v, (Lib.strCells S)[j]? = some v → (w.alloc (.cells (madeCells #[.int .u8 0] S.size) 5)).cell? (ad.add j) = some v) := fun h0 => by
    refine ⟨rfl, ?_⟩
    have o := (t.below hk1).own
    rcases o.2 with ⟨h1, h2⟩ | ⟨g, cap', cur, h1, _⟩
    · rw [Lib.strCells_length] at h0; omega
    · injection h1 with a1 a2 a3
      subst a1
      exact ⟨_, rfl, o.cells (g := g) rfl⟩
  have t1 := Lib.hid (t.below hk1)
  have hg1 : Hid ((w.alloc (.cells (madeCells #[.int .u8 0] S.size) 5)).heap[w.heap.size]? = some (.cells (madeCells #[.int .u8 0] S.size).toList.toArray 5 (0, 0))) := by
    show _ = _
    rw [heap_alloc_new]
  have hml : (madeCells #[.int .u8 0] S.size).toList.length = S.size := by
    have := size_madeCells #[.int .u8 0] S.size
    simpa using this
  have hsl : Hid (∀ L : List Value, L.length = S.size → splice L 0 (Lib.strCells S) = Lib.strCells S) := fun L h => by
    unfold splice
    rw [Lib.strCells_length, Nat.zero_add, ← h, List.drop_length]; simp
  have hcl := Lib.strCells_length S
  have hco := Lib.hid (Lib.strCells_oneCell S)
  have hw1 : Hid (w.heap.size + 1 = (w.alloc (.cells (madeCells #[.int .u8 0] S.size) 5)).heap.size) := by show _ = _; simp
  replace hk1 := Lib.hid hk1
  replace t := Lib.hid t
  go_enter Try.func17, Try.ntmps17
  go_wp2_with (refine wpList_copy_splice rfl _ _ 47 47 rfl 5 Try.underlying47 (by kernel_rfl) _ _ _ _ _ _ rfl rfl w.heap.size 0 (madeCells #[.int .u8 0] S.size).toList 5 hg1.out (Lib.strCells S) (by rw [hcl]; simp) hsrc.out (by rw [hcl, hml]; omega) hco.out w.heap.size w hk1.out (Nat.le_refl _) ?_; intro w2 hg2 hb2; have c12 := (t.out.below hb2).c1; have hb2 := Lib.hid hb2)
  go_ret
  have e2 := hg2.out
  rw [hsl.out _ hml] at e2
  have hlt : w.heap.size < w2.heap.size := by
    rcases Nat.lt_or_ge w.heap.size w2.heap.size with h | h
    · exact h
    · rw [Array.getElem?_eq_none h] at e2; cases e2
  have b3 := hb2.out.alloc hb2.out.size (.cells #[.slice (some ⟨w.heap.size, 0, none⟩) S.size S.size, .bool torn] 49)
  refine ⟨w2.heap.size, rfl, by omega, ⟨some ⟨w.heap.size, 0, none⟩, S.size, ⟨heap_alloc_new w2 _, ⟨by rw [Lib.strCells_length, Nat.mul_one], Or.inr ⟨w.heap.size, S.size, (Lib.strCells S).toArray, rfl, Nat.le_refl _, (Below.heap_alloc _ _ _ hlt).trans e2, Nat.le_refl _, by unfold maxLen; omega, by simp [hcl], by simp [← hcl]⟩⟩, hsz, by omega⟩⟩, b3⟩

/-- The methods of none. -/
theorem append_nil (s : ByteArray) (w : World) : Calls Try.prog 11 #[.pointer none, .string s] w fun e w' => e = .returned (.int .i64 12) ∧ w = w' := by
  have hf : Hid (Calls Try.prog 23 #[.pointer none, .string s] w fun e w' => e = .returned (.tuple #[.string ⟨#[]⟩, .int .i64 12]) ∧ w = w') := by
    show Calls _ _ _ _ _
    go_enter Try.func23, Try.ntmps23
    go_wp2_with fail
    go_ret2
    exact ⟨rfl, rfl⟩
  go_enter Try.func11, Try.ntmps11
  go_wp2_with fail
  refine hf.out.mono ?_
  rintro e w1 ⟨rfl, rfl⟩
  go_wp2_with fail
  go_ret
  exact ⟨rfl, rfl⟩
theorem crash_nil (s : ByteArray) (keep : Int) (w : World) : Calls Try.prog 13 #[.pointer none, .string s, .int .i64 keep] w fun e w' => e = .returned (.int .i64 12) ∧ w = w' := by
  have hf : Hid (Calls Try.prog 23 #[.pointer none, .string s] w fun e w' => e = .returned (.tuple #[.string ⟨#[]⟩, .int .i64 12]) ∧ w = w') := by
    show Calls _ _ _ _ _
    go_enter Try.func23, Try.ntmps23
    go_wp2_with fail
    go_ret2
    exact ⟨rfl, rfl⟩
  go_enter Try.func13, Try.ntmps13
  go_wp2_with fail
  refine hf.out.mono ?_
  rintro e w1 ⟨rfl, rfl⟩
  go_wp2_with fail
  go_ret
  exact ⟨rfl, rfl⟩
theorem recover_nil (w : World) : Calls Try.prog 15 #[.pointer none] w fun e w' => e = .returned (.slice none 0 0) ∧ w = w' := by
  go_enter Try.func15, Try.ntmps15
  go_wp2_with fail
  go_ret
  exact ⟨rfl, rfl⟩
theorem all_nil (w : World) : Calls Try.prog 20 #[.pointer none] w fun e w' => e = .returned (.slice none 0 0) ∧ w = w' := by
  go_enter Try.func20, Try.ntmps20
  go_wp2_with fail
  go_ret
  exact ⟨rfl, rfl⟩
theorem size_nil (w : World) : Calls Try.prog 19 #[.pointer none] w fun e w' => e = .returned (.int .i64 0) ∧ w = w' := by
  go_enter Try.func19, Try.ntmps19
  go_wp2_with fail
  go_ret
  exact ⟨rfl, rfl⟩
theorem copy_nil (w : World) : Calls Try.prog 17 #[.pointer none] w fun e w' => e = .returned (.pointer none) ∧ w = w' := by
  go_enter Try.func17, Try.ntmps17
  go_wp2_with fail
  go_ret
  exact ⟨rfl, rfl⟩
end Go.Proofs.Ytdkdkkledlolcaa
