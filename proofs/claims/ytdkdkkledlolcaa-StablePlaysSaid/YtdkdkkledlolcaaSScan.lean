/-
  stable.Scan: the records of bytes, in a row of its own, and how far they go; the document's Same: two lists that say the same. Condition: at most 100000 bytes.
-/
import Derived.Test.YtdkdkkledlolcaaSRec
import Derived.Laws.AppendOwn
import Derived.OwnWalk
namespace Go.Proofs.Ytdkdkkledlolcaa
open Go.RowKit
set_option maxRecDepth 100000

def strsOf (l : List ByteArray) : List Value := l.map fun p => .string p
theorem strsOf_len (l : List ByteArray) : (strsOf l).length = l.length := by simp [strsOf]
theorem strsOf_snoc (l : List ByteArray) (p : ByteArray) : strsOf (l ++ [p]) = strsOf l ++ [.string p] := by simp [strsOf]

theorem Try.info9 : (Try.prog.info? 9).map (fun i => (i.zero, i.size, i.bytes)) = some (some (.string ByteArray.empty), 1, 16) := by kernel_rfl

/-- A slice of texts that lies in the world. -/
def Strs (w : World) (v : Value) (l : List ByteArray) : Prop :=
  ∃ a cap, v = .slice a l.length cap ∧ (l = [] ∨ ∃ b off, a = some ⟨b, off, none⟩ ∧ ∀ i (h : i < l.length), w.cell? ⟨b, off + i, none⟩ = some (.string l[i]))
/-- A row of texts of one's own. -/
abbrev Row (w : World) (base : Nat) (v : Value) (l : List ByteArray) : Prop := w.ownsRow base 9 1 v l.length (strsOf l)

theorem Row.strs {w : World} {base : Nat} {v : Value} {l : List ByteArray} (h : Row w base v l) : Strs w v l := by
  rcases h.2 with ⟨rfl, h0⟩ | ⟨g, cap, cur, rfl, _, hg, _⟩
  · have e : l = [] := List.length_eq_zero_iff.1 h0
    subst e
    exact ⟨none, 0, rfl, Or.inl rfl⟩
  · refine ⟨some ⟨g, 0, none⟩, cap, rfl, Or.inr ⟨g, 0, rfl, fun i hi => ?_⟩⟩
    have hc := World.ownsRow.cells h (g := g) rfl i (.string l[i]) (by simp [strsOf, hi])
    have hadd : (⟨g, 0, none⟩ : Addr).add i = ⟨g, 0 + i, none⟩ := by unfold Addr.add; split <;> simp_all
    rw [hadd] at hc
    exact hc
theorem own_same {w w' : World} {base e size n : Nat} {v : Value} {xs : List Value} (h : w.ownsRow base e size v n xs) (hk : ∀ g, v.ownBlock = some g → w'.heap[g]? = w.heap[g]?) : w'.ownsRow base e size v n xs := by
  refine ⟨h.1, ?_⟩
  rcases h.2 with h0 | ⟨g, cap, cur, rfl, hb, hg, hr⟩
  · exact Or.inl h0
  · exact Or.inr ⟨g, cap, cur, rfl, hb, (hk g rfl).trans hg, hr⟩
theorem own_lt {w : World} {base e size n g : Nat} {v : Value} {xs : List Value} (h : w.ownsRow base e size v n xs) (hg : v.ownBlock = some g) : base ≤ g ∧ g < w.heap.size := h.lt g hg
theorem own_base {w : World} {base b2 e size n : Nat} {v : Value} {xs : List Value} (h : w.ownsRow base e size v n xs) (hb : b2 ≤ base) : w.ownsRow b2 e size v n xs := by
  refine ⟨h.1, ?_⟩
  rcases h.2 with h0 | ⟨g, cap, cur, rfl, h1, hg, hr⟩
  · exact Or.inl h0
  · exact Or.inr ⟨g, cap, cur, rfl, by omega, hg, hr⟩
theorem own_below {w w' : World} {base e size n : Nat} {v : Value} {xs : List Value} (h : w.ownsRow base e size v n xs) (k : Below w.heap.size w w') : w'.ownsRow base e size v n xs :=
  own_same h fun g hg => k.block g (own_lt h hg).2
theorem own_kept {w w' : World} {b base e size n : Nat} {v : Value} {xs : List Value} (h : w.ownsRow base e size v n xs) (k : D.Kept b w w') (hb : b < base) : w'.ownsRow base e size v n xs :=
  own_same h fun g hg => k.block g (own_lt h hg).2 (by have := (own_lt h hg).1; omega)
theorem Strs.below {w w' : World} {v : Value} {l : List ByteArray} (h : Strs w v l) (k : Below w.heap.size w w') : Strs w' v l := by
  obtain ⟨a, cap, rfl, h⟩ := h
  refine ⟨a, cap, rfl, ?_⟩
  rcases h with h | ⟨b, off, rfl, h⟩
  · exact Or.inl h
  · refine Or.inr ⟨b, off, rfl, fun i hi => ?_⟩
    have hlt := World.block_lt_of_cell? _ _ (h i hi)
    exact (World.cell?_of_block (w := w) (k.block b hlt)).trans (h i hi)

theorem below_drewN {B : Nat} {a w : World} (h : Below B a w) (n : Nat) : Below B a (w.drewN n) := ⟨h.os, h.tape, h.output, h.size, h.block⟩

theorem one_new (w : World) (x : Value) : ∀ (j : Nat) (u : Value), [x][j]? = some u → (w.alloc (.cells #[x] 9)).cell? ((⟨w.heap.size, 0, none⟩ : Addr).add j) = some u := by
  intro j u hj
  match j, hj with
  | 0, hj => simp at hj; subst hj; simp [Addr.add]
theorem one_cell (X : ByteArray) : ∀ u ∈ [Value.string X], u.oneCell' = true := by
  intro u hu; simp at hu; subst hu; rfl

set_option maxHeartbeats 1600000 in
theorem scan_any (s Q : ByteArray) (l : List ByteArray) (w : World) (hs : s.size ≤ 100000) (hl : s = cat l ++ Q) (hQ : NoRec Q) :
    Calls Try.prog 21 #[.string s] w fun e w' => ∃ v, e = .returned (.tuple #[v, .int .i64 ((cat l).size : Nat)]) ∧ Row w' w.heap.size v l ∧ Below w.heap.size w w' := by
  obtain ⟨i0, hi, hz0, hz1, hz2⟩ := info_parts Try.info9
  have hl0 := Lib.hid hl
  have hQ0 := Lib.hid hQ
  clear hl hQ
  go_enter Try.func21, Try.ntmps21
  go_wp2_with fail
  refine (D.read_any s _ hs).mono ?_
  rintro e w1 ⟨b, rfl, hb, t1, b1⟩
  have hb1 := t1.lt
  have hw1 := b1.size
  replace t1 := Lib.hid t1
  replace b1 := Lib.hid b1
  go_wp2_with fail
  go_loopw [2, 3] (fun v g wr => ∃ (pre : List ByteArray) (R : ByteArray) (k : Nat), Hid (s = cat pre ++ R) ∧ Hid (k = (cat pre).size) ∧ k + R.size = s.size ∧ g = .int .i64 k ∧ Hid (Row wr w1.heap.size v pre) ∧ Hid (D.Rd wr b ⟨R, 0⟩) ∧ Hid (Below w.heap.size w wr) ∧ w1.heap.size ≤ wr.heap.size) (fun _ g _ => s.size + 1 - (intOf g).toNat)
  case atStart => exact ⟨[], s, 0, (nil_app s).symm, rfl, by omega, rfl, World.ownsRow_nil _ _ _ _, t1, b1, Nat.le_refl _⟩
  case round =>
    obtain ⟨pre, R, k, hs2, hk, hkR, rfl, ho, tr, br, hwr⟩ := hrel
    clear t1 b1
    have hcut : s.extract k s.size = R := by rw [hk.out]; have := hs2.out; rw [this]; exact D.cut_append _ _ _ rfl
    have hp : pre.length ≤ k := by rw [hk.out]; have := cat_len pre; omega
    have hkle : k ≤ s.size := by omega
    go_wp2_with fail
    refine (record_any b R _ tr.out (by omega)).mono ?_
    rintro e w2 ⟨hrec, k2⟩
    have hsz2 := k2.size
    replace ho := Lib.hid (own_kept ho.out k2 hb1)
    have br2 : Hid (Below w.heap.size w w2) := br.out.trans (k2.below hb br.out.size)
    clear tr br k2
    rcases hrec with ⟨t, Q', hRt, rfl, t2⟩ | ⟨hno, t, rfl⟩
    · replace t2 := Lib.hid t2
      have hsz : R.size = (recB t).size + Q'.size := by rw [hRt, D.size_append']
      have hrl := recB_least t
      have hs3 : Hid (s = cat (pre ++ [t]) ++ Q') := by show s = _; rw [cat_snoc, D.app_assoc, ← hRt]; exact hs2.out
      have hk3 : Hid (s.size - Q'.size = (cat (pre ++ [t])).size) := by
        show _ = _
        rw [cat_snoc, D.size_append', ← hk.out]; omega
      clear hcut hs2 hk hRt
      generalize (recB t).size = z at *
      go_wp2_with (at_builtin; refine wpList_append_own _ rfl _ _ 37 rfl w1.heap.size 9 i0 (.string ByteArray.empty) 1 16 Try.underlying37 hi hz0 hz1 hz2 rfl (by decide) _ _ _ rfl (ho.out.alloc _) ⟨w2.heap.size, 0, none⟩ 1 1 [.string _] rfl rfl (one_new _ _) (one_cell _) (by unfold maxLen; omega) (by omega) (by simp; omega) ?_; intro v2 w3 ho2 hg2 _; have ho2 := Lib.hid ho2; have hg2 := Lib.hid hg2)
      have hb3 : Hid (Below w1.heap.size w2 w3) := ((Below.refl w1.heap.size w2).alloc (by omega) _).grown hg2.out (by simp; omega) (fun k hk => (ho.out.lt k hk).1)
      have t3 := Lib.hid (t2.out.same hb3.out.size (hb3.out.block b hb1))
      have br3 : Hid (Below w.heap.size w w3) := br2.out.trans (hb3.out.mono hw1)
      have hsz3 := hb3.out.size
      clear hb3 hg2 t2 br2 ho
      go_wp2_with fail
      refine (D.left_any b _ _ t3.out).mono ?_
      rintro e w' ⟨rfl, rfl⟩
      rw [show D.leftS ⟨Q', 0⟩ = (Q'.size : Int) from rfl]
      go_wp2_with fail
      refine ⟨⟨pre ++ [t], Q', s.size - Q'.size, hs3, hk3, by omega, by rw [show ((s.size - Q'.size : Nat) : Int) = (s.size : Int) - Q'.size by omega], ?_, t3, br3, by omega⟩, ?_⟩
      · show World.ownsRow _ _ _ _ _ (pre ++ [t]).length (strsOf (pre ++ [t]))
        rw [strsOf_snoc, List.length_append]
        exact ho2.out
      · simp [intOf]; omega
    · obtain ⟨rfl, rfl⟩ := scan_one pre l R Q (by rw [← hs2.out]; exact hs) hno hQ0.out (hs2.out.symm.trans hl0.out)
      clear hcut
      go_wp2_with fail
      go_ret2
      exact ⟨_, by rw [← hk.out]; rfl, own_base ho.out hw1, br2.out⟩

set_option maxHeartbeats 800000 in
theorem same_any (v u : Value) (l : List ByteArray) (w : World) (hv : Strs w v l) (hu : Strs w u l) (hz : l.length ≤ 1000000) :
    Calls Try.prog 14 #[v, u] w fun e w' => e = .returned (.bool true) ∧ Below w.heap.size w w' := by
  obtain ⟨a, c1, rfl, hv⟩ := hv
  obtain ⟨a2, c2, rfl, hu⟩ := hu
  by_cases h0 : l = []
  · subst h0
    clear hv hu
    rw [show ([] : List ByteArray).length = 0 from rfl]
    go_enter Try.func14, Try.ntmps14
    go_wp2_with fail
    go_loopw [5] (fun i wr => i = .int .i64 0 ∧ wr = w) (fun _ _ => 0)
    case atStart => exact ⟨rfl, rfl⟩
    case round =>
      obtain ⟨rfl, rfl⟩ := hrel
      go_wp2_with fail
      go_ret
      exact ⟨rfl, Below.refl _ _⟩
  · replace hv := hv.resolve_left h0
    replace hu := hu.resolve_left h0
    obtain ⟨b, o, rfl, hv⟩ := hv
    obtain ⟨b2, o2, rfl, hu⟩ := hu
    obtain ⟨n, hn⟩ : ∃ n, n = l.length := ⟨_, rfl⟩
    replace hv : Hid (∀ i (h : i < n), w.cell? ⟨b, o + i, none⟩ = some (.string (l.getD i ⟨#[]⟩))) := fun i h => by
      rw [hv i (by omega)]; simp [List.getD, show i < l.length by omega]
    replace hu : Hid (∀ i (h : i < n), w.cell? ⟨b2, o2 + i, none⟩ = some (.string (l.getD i ⟨#[]⟩))) := fun i h => by
      rw [hu i (by omega)]; simp [List.getD, show i < l.length by omega]
    rw [← hn] at hz ⊢
    clear hn h0
    generalize (fun i => l.getD i (⟨#[]⟩ : ByteArray)) = f at *
    go_enter Try.func14, Try.ntmps14
    go_wp2_with fail
    go_loopw [5] (fun i wr => ∃ k : Nat, k ≤ n ∧ i = .int .i64 k ∧ Hid (Below w.heap.size w wr)) (fun i _ => n - (intOf i).toNat)
    case atStart => exact ⟨0, by omega, rfl, Below.refl _ _⟩
    case round =>
      obtain ⟨k, hk, rfl, br⟩ := hrel
      by_cases hlt : k < n
      · have c1 := hv.out k hlt
        have c2 := hu.out k hlt
        have c3 : wr.cell? ⟨b, o + k, none⟩ = some (.string (l.getD k ⟨#[]⟩)) := (br.out.cell (World.block_lt_of_cell? _ _ c1)).trans c1
        have c4 : wr.cell? ⟨b2, o2 + k, none⟩ = some (.string (l.getD k ⟨#[]⟩)) := (br.out.cell (World.block_lt_of_cell? _ _ c2)).trans c2
        clear c1 c2
        generalize l.getD k ⟨#[]⟩ = x at *
        go_wp2_with fail
        go_quiet (fail)
        have br1 := Lib.hid (below_drewN br.out nq)
        clear c3 c4 br
        generalize wr.drewN nq = w5 at *
        go_wp2_with fail
        refine ⟨⟨k + 1, by omega, by go_num, br1⟩, ?_⟩
        simp [intOf]; omega
      · go_wp2_with fail
        go_ret
        exact ⟨rfl, br.out⟩
end Go.Proofs.Ytdkdkkledlolcaa
