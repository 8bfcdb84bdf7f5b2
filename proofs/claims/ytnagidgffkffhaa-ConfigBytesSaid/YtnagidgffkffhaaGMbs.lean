/-
  Layer 11: whether chains are few; rows of members copied; a chain and a member in blocks, beside other rows. Condition: at most 1000 members.
-/
import Derived.Test.YtnagidgffkffhaaGTurn3
set_option linter.unusedVariables false
set_option linter.unusedSimpArgs false
namespace Go.Proofs.Ytnagidgffkffhaa.G
open Go.RowKit Cfg
set_option maxRecDepth 100000
/-- A row of chains' blocks. -/
def Cfs (w : World) (g : Nat) (l : List (Int × Option Addr × Nat × Nat)) : Prop := ∀ i (hi : i < l.length), w.cell? ⟨g, i * 2, none⟩ = some (.int .i64 l[i].1) ∧ w.cell? ⟨g, i * 2 + 1, none⟩ = some (.slice l[i].2.1 l[i].2.2.1 l[i].2.2.2)
theorem Cfs.below {w w' : World} {g : Nat} {l : List (Int × Option Addr × Nat × Nat)} (h : Cfs w g l) (k : Below w.heap.size w w') : Cfs w' g l := fun i hi => by
  obtain ⟨c0, c1⟩ := h i hi
  exact ⟨(k.cell (p := ⟨g, _, none⟩) (World.block_lt_of_cell? w _ c0)).trans c0, (k.cell (p := ⟨g, _, none⟩) (World.block_lt_of_cell? w _ c1)).trans c1⟩
def fewN (l : List (Int × Option Addr × Nat × Nat)) : Bool := l.all fun x => decide (x.2.2.1 ≤ 40)
set_option maxHeartbeats 2000000 in
theorem few_any (g : Nat) (l : List (Int × Option Addr × Nat × Nat)) (w : World) (t : Cfs w g l) (hl : l.length ≤ 1000) :
    Calls Try.prog 11 #[.slice (some ⟨g, 0, none⟩) l.length l.length] w fun e w' => e = .returned (.bool (fewN l)) ∧ Below w.heap.size w w' := by
  have b0 := Lib.hid (Below.refl w.heap.size w)
  have hlI : (l.length : Int) ≤ 1000 := by omega
  obtain ⟨R, hR⟩ : ∃ R, fewN l = R := ⟨_, rfl⟩
  have hno : Hid (∀ k (h : k < l.length), ¬ l[k].2.2.1 ≤ 40 → false = R) := fun k h hn => by
    rw [← hR]; symm; unfold fewN; rw [List.all_eq_false]; exact ⟨l[k], List.getElem_mem h, by simpa using hn⟩
  have hye : Hid ((∀ k (h : k < l.length), l[k].2.2.1 ≤ 40) → true = R) := fun h => by
    rw [← hR]; symm; unfold fewN; rw [List.all_eq_true]; intro x hx; obtain ⟨k, hk, rfl⟩ := List.getElem_of_mem hx; exact decide_eq_true (h k hk)
  rw [hR]
  clear hR
  replace t := Lib.hid t
  go_enter Try.func11, Try.ntmps11
  go_wp2_with fail
  go_loopw [7] (fun v wr => ∃ k : Nat, v = .int .i64 k ∧ (k : Int) ≤ l.length ∧ Hid (∀ j (h : j < l.length), j < k → l[j].2.2.1 ≤ 40) ∧ Hid (Below w.heap.size w wr)) (fun v _ => ((l.length : Int) - intOf v).toNat)
  case atStart => exact ⟨0, rfl, by omega, Lib.hid fun j hj h => by omega, b0⟩
  case round =>
    obtain ⟨k, rfl, hk, hb, b2⟩ := hrel
    clear b0
    by_cases hlt : (k : Int) < l.length
    · have hkl : k < l.length := by omega
      obtain ⟨c0, c1⟩ := (t.out.below b2.out) k hkl
      have hno2 := Lib.hid (hno.out k hkl)
      have hb2 : Hid (l[k].2.2.1 ≤ 40 → ∀ j (h : j < l.length), j < k + 1 → l[j].2.2.1 ≤ 40) := fun e j h h1 => by
        rcases Nat.lt_or_ge j k with h2 | h2
        · exact hb.out j h h2
        · obtain rfl : j = k := by omega
          exact e
      generalize l[k] = s at *
      obtain ⟨x0, x1, x2, x3⟩ := s
      simp only at c0 c1 hno2 hb2
      have ba := Lib.hid (b2.out.trans (((Below.refl wr.heap.size wr).alloc (Nat.le_refl _) (.cells #[.int .i64 x0, .slice x1 x2 x3] 24)).mono b2.out.size))
      by_cases h40 : (40 : Int) < x2
      · have e := Lib.hid (hno2.out (by omega))
        go_wp2_with fail
        go_ret
        exact ⟨by rw [← e.out]; rfl, ba.out⟩
      · have e := Lib.hid (hb2.out (by omega))
        go_wp2_with fail
        exact ⟨⟨k + 1, by go_num, by omega, e, ba⟩, by simp [intOf]; omega⟩
    · have e := Lib.hid (hye.out fun j hj => hb.out j hj (by omega))
      go_wp2_with fail
      go_ret
      exact ⟨by rw [← e.out]; rfl, b2.out⟩

/-! ### Rows of members -/
abbrev mbC (m : MbN) : Array Value := #[.int .i64 m.node, .int .i64 m.life]
def flatM (l : List MbN) : List Value := l.flatMap fun s => (mbC s).toList
theorem flatM_len (l : List MbN) : (flatM l).length = l.length * 2 := by
  induction l with
  | nil => rfl
  | cons x l ih => show ((mbC x).toList ++ flatM l).length = _; rw [List.length_append, ih, List.length_cons]; simp; omega
theorem flatM_at (l : List MbN) (i : Nat) (hi : i < l.length) (j : Nat) (hj : j < 2) : (flatM l)[i * 2 + j]? = (mbC l[i])[j]? := by
  induction l generalizing i with
  | nil => simp at hi
  | cons x l ih =>
    show ((mbC x).toList ++ flatM l)[i * 2 + j]? = _
    match i, hi with
    | 0, _ =>
      rw [Nat.zero_mul, Nat.zero_add, List.getElem?_append_left (by simpa using hj)]
      simp
    | i + 1, hi =>
      rw [List.getElem?_append_right (by simp; omega)]
      have := ih i (by simpa using hi)
      rw [show (i + 1) * 2 + j - (mbC x).toList.length = i * 2 + j by simp; omega, this]
      simp
theorem flatM_one (l : List MbN) : ∀ u ∈ flatM l, u.oneCell' = true := by
  intro u hu
  obtain ⟨s, _, hs⟩ := List.mem_flatMap.1 hu
  simp only [List.mem_cons, List.not_mem_nil, or_false] at hs
  rcases hs with rfl | rfl <;> rfl
theorem mbs_flat {w : World} {b off : Nat} {l : List MbN} (h : Mbs w (some ⟨b, off, none⟩) l) : ∀ (j : Nat) (u : Value), (flatM l)[j]? = some u → w.cell? ((⟨b, off, none⟩ : Addr).add j) = some u := by
  intro j u hu
  rw [Addr.add_lit]
  have hj : j < l.length * 2 := by
    rcases Nat.lt_or_ge j (l.length * 2) with e | e
    · exact e
    · rw [List.getElem?_eq_none (by rw [flatM_len]; exact e)] at hu; cases hu
  have hi : j / 2 < l.length := by omega
  have hr : j % 2 < 2 := Nat.mod_lt _ (by omega)
  have e : j / 2 * 2 + j % 2 = j := by omega
  rw [← e, flatM_at l _ hi _ hr] at hu
  obtain ⟨b', off', eb, c0, c1⟩ := h _ hi
  injection eb with eb; injection eb with e1 e2; subst e1 e2
  rw [← e]
  match hm : j % 2, hr with
  | 0, _ => rw [hm] at hu; simp at hu; rw [← hu]; exact c0
  | 1, _ => rw [hm] at hu; simp at hu; rw [← hu, ← c1, Nat.add_assoc]
theorem infoMb : (Try.prog.info? 26).map (fun i => (i.zero, i.size, i.bytes)) = some (some (.agg #[.int .i64 0, .int .i64 0]), 2, 16) := by kernel_rfl
/-- A row's members behind an empty one of one's own. -/
theorem mcopy {g0 : Nat} {W : World} (h : Blk W g0 #[] 26) {q : Option Addr} {l : List MbN} (t : Mbs W q l) (hl : l.length ≤ 1000) (qc : Nat) (hq : q = none → qc = 0) :
    ∃ v' w', (Builtin.append_ #[42, 42] 42 #[.slice (some ⟨g0, 0, none⟩) 0 0, .slice q l.length qc]).run Try.prog W = .ok v' w' ∧ (∃ p' c', v' = .slice p' l.length c' ∧ Mbs w' p' l) ∧ W.grownBy w' (some g0) := by
  obtain ⟨i0, hi0, hz0, hzs, hzb⟩ := info_parts infoMb
  have o : W.ownsRow 0 26 2 (.slice (some ⟨g0, 0, none⟩) 0 0) 0 [] := ⟨rfl, .inr ⟨g0, 0, #[], rfl, Nat.zero_le _, h, Nat.le_refl _, Nat.zero_le _, rfl, rfl⟩⟩
  cases q with
  | none =>
    have hl0 : l = [] := by
      cases l with
      | nil => rfl
      | cons x l => obtain ⟨b, off, e, _⟩ := t 0 (by simp); cases e
    subst hl0
    rw [hq rfl]
    exact ⟨_, W, run_append_owned_none (P := Try.prog) W 0 42 42 26 i0 2 Try.underlying42 hi0 _ 0 [] o, ⟨some ⟨g0, 0, none⟩, 0, rfl, fun i hi => by simp at hi⟩, ⟨rfl, rfl, rfl, Nat.le_refl _, fun _ _ _ => rfl⟩⟩
  | some a =>
    have hnew : ∀ j u, (flatM l)[j]? = some u → W.cell? (a.add j) = some u := by
      cases l with
      | nil => intro j u hu; simp [flatM] at hu
      | cons x l =>
        obtain ⟨b, off, e, _⟩ := t 0 (by simp)
        injection e with e
        subst e
        exact mbs_flat t
    obtain ⟨v', w', g1, g2, g3, -, g5⟩ := run_append_own_at W 0 42 42 26 i0 _ 2 16 Try.underlying42 hi0 hz0 hzs hzb rfl (by decide) (.slice (some ⟨g0, 0, none⟩) 0 0) 0 [] o a l.length qc (flatM l) (flatM_len l) hnew (flatM_one l) (by unfold maxLen; omega) (by omega) (Nat.zero_le _)
    refine ⟨v', w', g1, ?_, g3⟩
    simp only [Nat.zero_add, List.nil_append] at g2
    rcases g2.2 with ⟨h1, h2⟩ | ⟨g, c, cur, h1, h2, h3, h4, h5, h6, h7⟩
    · obtain rfl := List.length_eq_zero_iff.1 h2
      exact ⟨none, 0, h1, fun i hi => by simp at hi⟩
    · refine ⟨_, c, h1, fun i hi => ⟨g, 0, rfl, ?_, ?_⟩⟩
      all_goals
        have hc := fun j hj => World.ownsRow.cells g2 (g := g) (by rw [h1]; rfl) (i * 2 + j) _ ((flatM_at l i hi j hj).trans (Array.getElem?_eq_getElem (show j < (mbC l[i]).size from hj)))
        simp only [Addr.add_lit] at hc
      · exact hc 0 (by omega)
      · exact hc 1 (by omega)
theorem Chn.grown {W W' : World} {p : Option Addr} {l : List StN} {g0 : Nat} {T : TypeId} (h : Chn W p l) (k : Blk W g0 #[] T) (g : W.grownBy W' (some g0)) : Chn W' p l := fun j hj => by
  obtain ⟨b, off, e, c0, c1, c2⟩ := h j hj
  have hne : b ≠ g0 := fun e => by
    subst e
    rw [k.cell] at c0
    cases c0
  have hb : W'.heap[b]? = W.heap[b]? := g.block b (World.block_lt_of_cell? W _ c0) fun e => hne (by injection e)
  exact ⟨b, off, e, (World.cell?_of_block hb).trans c0, (World.cell?_of_block hb).trans c1, (World.cell?_of_block hb).trans c2⟩
theorem Mbs.grown {W W' : World} {p : Option Addr} {l : List MbN} {g0 : Nat} {T : TypeId} (h : Mbs W p l) (k : Blk W g0 #[] T) (g : W.grownBy W' (some g0)) : Mbs W' p l := fun j hj => by
  obtain ⟨b, off, e, c0, c1⟩ := h j hj
  have hne : b ≠ g0 := fun e => by
    subst e
    rw [k.cell] at c0
    cases c0
  have hb : W'.heap[b]? = W.heap[b]? := g.block b (World.block_lt_of_cell? W _ c0) fun e => hne (by injection e)
  exact ⟨b, off, e, (World.cell?_of_block hb).trans c0, (World.cell?_of_block hb).trans c1⟩
theorem Blk.alloc {W : World} {k : Nat} {cs : Array Value} {T : TypeId} (h : Blk W k cs T) (o : Obj) : Blk (W.alloc o) k cs T := h.below ((Below.refl _ _).alloc (Nat.le_refl _) _)
theorem Chn.alloc {W : World} {p : Option Addr} {l : List StN} (h : Chn W p l) (o : Obj) : Chn (W.alloc o) p l := h.below ((Below.refl _ _).alloc (Nat.le_refl _) _)
theorem Mbs.alloc {W : World} {p : Option Addr} {l : List MbN} (h : Mbs W p l) (o : Obj) : Mbs (W.alloc o) p l := h.below ((Below.refl _ _).alloc (Nat.le_refl _) _)
/-- A chain and a member in blocks of their own. -/
structure Bt (w : World) (e0 : Int) (p : Option Addr) (n cap : Nat) (m0 m1 : Int) (w3 : World) : Prop where
  k : Blk w3 w.heap.size #[.int .i64 e0, .slice p n cap] 24
  d : Blk w3 (w.heap.size + 1) #[.int .i64 m0, .int .i64 m1] 26
  b : Below w.heap.size w w3
section
variable {w w3 w4 : World} {e0 : Int} {p : Option Addr} {n cap : Nat} {m0 m1 : Int}
theorem Bt.new (w : World) (e0 : Int) (p : Option Addr) (n cap : Nat) (m0 m1 : Int) : Bt w e0 p n cap m0 m1 ((w.alloc (.cells #[.int .i64 e0, .slice p n cap] 24)).alloc (.cells #[.int .i64 m0, .int .i64 m1] 26)) := by
  have ba := (Below.refl w.heap.size w).alloc (Nat.le_refl _) (.cells #[.int .i64 e0, .slice p n cap] 24)
  have x2 := Blk.new (w.alloc (.cells #[.int .i64 e0, .slice p n cap] 24)) #[.int .i64 m0, .int .i64 m1] 26
  simp only [World.size_alloc] at x2
  exact ⟨(Blk.new w _ _).alloc _, x2, ba.alloc ba.size _⟩
theorem Bt.below (h : Bt w e0 p n cap m0 m1 w3) (k : Below w3.heap.size w3 w4) : Bt w e0 p n cap m0 m1 w4 := ⟨h.k.below k, h.d.below k, h.b.trans (k.mono h.b.size)⟩
theorem Bt.alloc (h : Bt w e0 p n cap m0 m1 w3) (o : Obj) : Bt w e0 p n cap m0 m1 (w3.alloc o) := h.below ((Below.refl _ _).alloc (Nat.le_refl _) _)
theorem Bt.lt (h : Bt w e0 p n cap m0 m1 w3) : w.heap.size + 1 < w3.heap.size := h.d.lt
theorem Bt.grown (h : Bt w e0 p n cap m0 m1 w3) {g0 : Nat} (g : w3.grownBy w4 (some g0)) (hg : w.heap.size + 1 < g0) : Bt w e0 p n cap m0 m1 w4 :=
  ⟨h.k.grown g (fun e => by injection e; omega), h.d.grown g (fun e => by injection e; omega), h.b.trans ((Below.refl w.heap.size w3).grown g h.b.size fun k hk => by injection hk; omega)⟩
theorem Bt.setf (h : Bt w e0 p n cap m0 m1 w3) {q i : Nat} {v : Value} (hq : w.heap.size + 1 < q) : Bt w e0 p n cap m0 m1 (w3.setCell ⟨q, i, none⟩ v) :=
  ⟨(heap_setCell_other w3 ⟨q, i, none⟩ _ v (by simp; omega)).trans h.k, (heap_setCell_other w3 ⟨q, i, none⟩ _ v (by simp; omega)).trans h.d, bset h.b (by omega)⟩
end
theorem Chn.setz {W : World} {p : Option Addr} {l : List StN} {q i : Nat} {cs : Array Value} {T : TypeId} {v : Value} (h : Chn W p l) (k : Blk W q cs T) (hs : cs.size ≤ 2) : Chn (W.setCell ⟨q, i, none⟩ v) p l := fun j hj => by
  obtain ⟨b, off, e, c0, c1, c2⟩ := h j hj
  have hne : q ≠ b := fun e => by
    subst e
    rw [k.cell, Array.getElem?_eq_none (by omega)] at c2
    cases c2
  exact ⟨b, off, e, (World.cell?_setCell_far _ _ _ _ hne).trans c0, (World.cell?_setCell_far _ _ _ _ hne).trans c1, (World.cell?_setCell_far _ _ _ _ hne).trans c2⟩
theorem Blk.ne {W : World} {a b : Nat} {cs cs' : Array Value} {T T' : TypeId} (h : Blk W a cs T) (h' : Blk W b cs' T') (hT : T ≠ T') : a ≠ b := fun e => by
  subst e
  have h1 : W.heap[a]? = some (.cells cs T (0, 0)) := h
  have h2 : W.heap[a]? = some (.cells cs' T' (0, 0)) := h'
  rw [h1] at h2
  injection h2 with h2
  injection h2 with _ h2
  exact hT h2
theorem cfs_one {W : World} {g : Nat} {e0 : Int} {p : Option Addr} {n cap : Nat} (k : Blk W g #[.int .i64 e0, .slice p n cap] 24) : Cfs W g [(e0, p, n, cap)] := fun i hi => by
  obtain rfl : i = 0 := by simp at hi; exact hi
  exact ⟨k.cell 0, k.cell 1⟩
theorem cfs_two {W : World} {g : Nat} {e0 e1 : Int} {p p' : Option Addr} {n n' cap cap' : Nat} (k : Blk W g #[.int .i64 e0, .slice p n cap, .int .i64 e1, .slice p' n' cap'] 24) : Cfs W g [(e0, p, n, cap), (e1, p', n', cap')] := fun i hi => by
  match i, hi with
  | 0, _ => exact ⟨k.cell 0, k.cell 1⟩
  | 1, _ => exact ⟨k.cell 2, k.cell 3⟩
  | i + 2, hi => exact absurd hi (by simp)
theorem Blk.setf {W : World} {q q' i : Nat} {cs : Array Value} {T : TypeId} {v : Value} (k : Blk W q cs T) (hne : q ≠ q') : Blk (W.setCell ⟨q', i, none⟩ v) q cs T := (heap_setCell_other W ⟨q', i, none⟩ q v hne).trans k
end Go.Proofs.Ytnagidgffkffhaa.G
