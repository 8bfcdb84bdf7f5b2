/-
  Texts laid into one (a claim has 60 files at most): OVer, OEq, OLog, OLx.
-/
import Derived.Test.YtoihekgmomjhpaaGreatDoorKO1
import Derived.Test.YtoihekgmomjhpaaGreatDoorKO2
import Derived.Test.YtoihekgmomjhpaaGreatDoorKS1
import Derived.Laws.StructEq
import Derived.WalkKit
import Derived.WalkSpells
/-
  Layer 9: the versions of the timers in memory: a map of rows; one more at the end of one of them.
-/
set_option linter.unusedVariables false
namespace Go.Proofs.YtoihekgmomjhpaaGreatDoor
open Go.RowKit Go.MapKept Crn Nxt Ste
set_option maxRecDepth 100000
abbrev vm : TypeId := 79
theorem mapV : Tryz.prog.underlying vm = some (.map 3 93) := Tryz.underlying79
abbrev verC (v : Nat × Rp) : Array Value := #[.int .i64 (v.1 : Int), .int .i64 v.2.err, .int .i64 v.2.gen, .int .i64 v.2.due]
theorem infoVer : (Tryz.prog.info? 96).map (fun i => (i.zero, i.size, i.bytes)) = some (some (.agg #[.int .i64 0, .int .i64 0, .int .i64 0, .int .i64 0]), 4, 32) := by kernel_rfl
theorem verC_one (x : Nat × Rp) : ∀ u ∈ (verC x).toList, u.oneCell' = true := by
  intro u hu
  simp only [List.mem_cons, List.not_mem_nil, or_false] at hu
  rcases hu with rfl | rfl | rfl | rfl <;> rfl
abbrev VRow := SRow verC 96 4
/-- The blocks of the versions. -/
def rowsOf (vt : List (Int × Value)) : List Nat := vt.flatMap fun p => p.2.ownBlock.toList
theorem mem_rows {vt : List (Int × Value)} {g : Nat} : g ∈ rowsOf vt ↔ ∃ p ∈ vt, p.2.ownBlock = some g := by
  unfold rowsOf
  rw [List.mem_flatMap]
  constructor
  · rintro ⟨p, hp, h⟩; exact ⟨p, hp, by simpa [Option.mem_toList] using h⟩
  · rintro ⟨p, hp, h⟩; exact ⟨p, hp, by simpa [Option.mem_toList] using h⟩
structure Vers (base : Nat) (w : World) (vr : Nat) (vt : List (Int × Value)) (ver : Int → List (Nat × Rp)) : Prop where
  map : VMap w vr vt
  inn : ∀ p ∈ vt, I64 p.1
  keys : vt.Pairwise fun p q => p.1 ≠ q.1
  row : ∀ p ∈ vt, ∃ q cap, p.2 = .slice q (ver p.1).length cap ∧ VRow base w q cap (ver p.1)
  nope : ∀ id, (∀ p ∈ vt, p.1 ≠ id) → ver id = []
  sep : vt.Pairwise fun p q => ∀ g, p.2.ownBlock = some g → q.2.ownBlock ≠ some g
section
variable {base : Nat} {w w' : World} {vr : Nat} {vt : List (Int × Value)} {ver : Int → List (Nat × Rp)}
theorem Vers.lt (h : Vers base w vr vt ver) : vr < w.heap.size ∧ ∀ g, g ∈ rowsOf vt → base ≤ g ∧ g < w.heap.size := by
  refine ⟨h.map.lt, fun g hg => ?_⟩
  obtain ⟨p, hp, hg⟩ := mem_rows.1 hg
  obtain ⟨q, cap, e, hr⟩ := h.row p hp
  rw [e] at hg
  exact World.ownsRow.lt hr g hg
theorem Vers.type (h : Vers base w vr vt ver) : ∀ g, g ∈ rowsOf vt → ∃ cur, w.heap[g]? = some (.cells cur 96 (0, 0)) := fun g hg => by
  obtain ⟨p, hp, hg⟩ := mem_rows.1 hg
  obtain ⟨q, cap, e, hr⟩ := h.row p hp
  rw [e] at hg
  exact row_at hr hg
theorem Vers.kept (h : Vers base w vr vt ver) (hv : w'.heap[vr]? = w.heap[vr]?) (hk : ∀ g, g ∈ rowsOf vt → w'.heap[g]? = w.heap[g]?) : Vers base w' vr vt ver :=
  ⟨h.map.kept hv, h.inn, h.keys, fun p hp => by
    obtain ⟨q, cap, e, hr⟩ := h.row p hp
    exact ⟨q, cap, e, hr.kept fun g hg => hk g (mem_rows.2 ⟨p, hp, by rw [e]; exact own_row.2 hg⟩)⟩, h.nope, h.sep⟩
theorem Vers.far (h : Vers base w vr vt ver) : vr ∉ rowsOf vt := fun e => by
  obtain ⟨cur, hc⟩ := h.type vr e
  exact map_no hc h.map rfl
/-- The row of one timer: its place, or none. -/
theorem Vers.look (h : Vers base w vr vt ver) (id : Int) (hid : I64 id) : ∃ q cap, VRow base w q cap (ver id) ∧ (∀ g, g ∈ rowOf q → g ∈ rowsOf vt) ∧ ((id, Value.slice q (ver id).length cap) ∈ vt ∨ (∀ p ∈ vt, p.1 ≠ id) ∧ q = none ∧ cap = 0 ∧ ver id = []) ∧
    ∀ W : World, W.heap[vr]? = w.heap[vr]? → (Instr.lookup vm (.map (some vr)) (.int .i64 id) false).run Tryz.prog W = .ok (.slice q (ver id).length cap) W := by
  by_cases hin : ∃ p ∈ vt, p.1 = id
  · obtain ⟨p, hp, rfl⟩ := hin
    obtain ⟨q, cap, e, hr⟩ := h.row p hp
    have hpe : (p.1, Value.slice q (ver p.1).length cap) ∈ vt := by rw [← e]; exact hp
    refine ⟨q, cap, hr, fun g hg => mem_rows.2 ⟨p, hp, by rw [e]; exact own_row.2 hg⟩, .inl hpe, fun W hW => ?_⟩
    have := vlook_some (T := vm) mapV (h.map.kept hW) h.inn h.keys hpe false
    simpa using this
  · have hn : ∀ p ∈ vt, p.1 ≠ id := fun p hp e => hin ⟨p, hp, e⟩
    have hv := h.nope id hn
    refine ⟨none, 0, by rw [hv]; exact World.ownsRow_nil _ _ _ _, fun g hg => by simp [rowOf, Value.ownBlock] at hg, .inr ⟨hn, rfl, rfl, hv⟩, fun W hW => ?_⟩
    rw [hv]
    have := vlook_none (T := vm) mapV Tryz.zeroValue93 (h.map.kept hW) h.inn hid hn false
    simpa using this
end
def verPut (ver : Int → List (Nat × Rp)) (id : Int) (x : Nat × Rp) : Int → List (Nat × Rp) := fun k => if k = id then ver k ++ [x] else ver k
def vtPut (vt : List (Int × Value)) (id : Int) (v : Value) : List (Int × Value) := if vt.any (fun p => decide (p.1 = id)) = true then vt.map fun p => if p.1 = id then (id, v) else p else vt ++ [(id, v)]
/-- One more version of a timer. -/
theorem Vers.push {base : Nat} {w W : World} {vr : Nat} {vt : List (Int × Value)} {ver : Int → List (Nat × Rp)} (h : Vers base w vr vt ver) (id : Int) (hid : I64 id) {q : Option Addr} {cap : Nat} (hr : VRow base w q cap (ver id)) (hq : ∀ g, g ∈ rowOf q → g ∈ rowsOf vt)
    (hat : (id, Value.slice q (ver id).length cap) ∈ vt ∨ (∀ p ∈ vt, p.1 ≠ id) ∧ q = none ∧ cap = 0 ∧ ver id = []) (hl : (ver id).length ≤ 100000) (hv : W.heap[vr]? = w.heap[vr]?) (hk : ∀ g, g ∈ rowsOf vt → W.heap[g]? = w.heap[g]?) (hsz : w.heap.size ≤ W.heap.size) (hbase : base ≤ W.heap.size)
    (x : Nat × Rp) {vb : Nat} (hvb : W.heap[vb]? = some (.cells (verC x) 96)) :
    ∃ p' cap' w8 w9, (Builtin.append_ #[93, 93] 93 #[.slice q (ver id).length cap, .slice (some ⟨vb, 0, none⟩) 1 1]).run Tryz.prog W = .ok (.slice p' ((ver id).length + 1) cap') w8 ∧
      (Instr.mapUpdate vm (.map (some vr)) (.int .i64 id) (.slice p' ((ver id).length + 1) cap')).run Tryz.prog w8 = .ok () w9 ∧ Vers base w9 vr (vtPut vt id (.slice p' ((ver id).length + 1) cap')) (verPut ver id x) ∧
      (∀ i, i < W.heap.size → i ∉ rowsOf vt → w8.heap[i]? = W.heap[i]? ∧ (i ≠ vr → w9.heap[i]? = W.heap[i]?)) ∧ (W.heap.size ≤ w8.heap.size ∧ W.heap.size ≤ w9.heap.size) ∧ (w9.os = W.os ∧ w9.tape = W.tape ∧ w9.output = W.output) ∧
      ∀ g, g ∈ rowsOf (vtPut vt id (.slice p' ((ver id).length + 1) cap')) → g ∈ rowsOf vt ∨ W.heap.size ≤ g := by
  have hW := h.kept hv hk
  have hrW : VRow base W q cap (ver id) := hr.kept fun g hg => hk g (hq g hg)
  obtain ⟨p', cap', w8, g1, g2, g3, g4, g5, g6⟩ := push_run (ST := 93) Tryz.underlying93 infoVer (by rfl) (by omega) (by omega) (fun _ => rfl) verC_one hrW hl hbase x hvb
  have hvW : vr < W.heap.size := hW.map.lt
  have hvq : vr ∉ rowOf q := fun e => h.far (hq vr e)
  have hm8 : VMap w8 vr vt := hW.map.kept (g3 vr hvW hvq)
  -- the map behind
  have hup : ∃ w9, (Instr.mapUpdate vm (.map (some vr)) (.int .i64 id) (.slice p' ((ver id).length + 1) cap')).run Tryz.prog w8 = .ok () w9 ∧ VMap w9 vr (vtPut vt id (.slice p' ((ver id).length + 1) cap')) ∧ w8.grownBy w9 (some vr) ∧ w9.heap.size = w8.heap.size := by
    rcases hat with hin | ⟨hn, _⟩
    · obtain ⟨w9, e1, e2, e3, e4⟩ := vupdate (T := vm) mapV hm8 h.inn h.keys hin (.slice p' ((ver id).length + 1) cap')
      refine ⟨w9, e1, ?_, e3, e4⟩
      unfold vtPut
      rw [if_pos (List.any_eq_true.2 ⟨_, hin, by simp⟩)]
      exact e2
    · obtain ⟨w9, e1, e2, e3, e4⟩ := vinsert (T := vm) mapV hm8 h.inn (.slice p' ((ver id).length + 1) cap') hid hn
      refine ⟨w9, e1, ?_, e3, e4⟩
      unfold vtPut
      rw [if_neg (fun e => by
        obtain ⟨p, hp, e⟩ := List.any_eq_true.1 e
        exact hn p hp (of_decide_eq_true e))]
      exact e2
  obtain ⟨w9, e1, e2, e3, e4⟩ := hup
  -- which pairs there are
  have mem : ∀ p, p ∈ vtPut vt id (.slice p' ((ver id).length + 1) cap') ↔ (p = (id, .slice p' ((ver id).length + 1) cap')) ∨ (p ∈ vt ∧ p.1 ≠ id) := fun p => by
    unfold vtPut
    rcases hat with hin | ⟨hn, _⟩
    · rw [if_pos (List.any_eq_true.2 ⟨_, hin, by simp⟩), List.mem_map]
      constructor
      · rintro ⟨r, hr, rfl⟩
        by_cases e : r.1 = id
        · rw [if_pos e]; exact .inl rfl
        · rw [if_neg e]; exact .inr ⟨hr, e⟩
      · rintro (rfl | ⟨h1, h2⟩)
        · exact ⟨_, hin, by simp⟩
        · exact ⟨p, h1, by rw [if_neg h2]⟩
    · rw [if_neg (fun e => by
        obtain ⟨p, hp, e⟩ := List.any_eq_true.1 e
        exact hn p hp (of_decide_eq_true e)), List.mem_append, List.mem_singleton]
      constructor
      · rintro (h1 | rfl)
        · exact .inr ⟨h1, hn p h1⟩
        · exact .inl rfl
      · rintro (rfl | ⟨h1, _⟩)
        · exact .inr rfl
        · exact .inl h1
  have hvr9 : ∀ g, g ≠ vr → g < w8.heap.size → w9.heap[g]? = w8.heap[g]? := fun g hg hl => e3.block g hl (fun e => hg (by injection e))
  have p'far : ∀ g, g ∈ rowOf p' → g ∈ rowOf q ∨ g = W.heap.size := g6
  have hne8 : ∀ g, g ∈ rowOf p' → g ≠ vr := fun g hg e => by
    rcases p'far g hg with e2 | e2
    · rw [e] at e2; exact hvq e2
    · omega
  -- rows of the others
  have oth : ∀ p, p ∈ vt → p.1 ≠ id → ∀ g, p.2.ownBlock = some g → g ∉ rowOf q ∧ g < W.heap.size ∧ g ≠ vr := fun p hp hpi g hg => by
    have hgr : g ∈ rowsOf vt := mem_rows.2 ⟨p, hp, hg⟩
    refine ⟨fun e => ?_, Nat.lt_of_lt_of_le (h.lt.2 g hgr).2 hsz, fun e => h.far (by rw [← e]; exact hgr)⟩
    rcases hat with hin | ⟨_, rfl, _⟩
    · have hown : (Value.slice q (ver id).length cap).ownBlock = some g := own_row.2 e
      obtain ⟨i, hi, ei⟩ := List.mem_iff_getElem.1 hin
      obtain ⟨j, hj, ej⟩ := List.mem_iff_getElem.1 hp
      rcases Nat.lt_trichotomy i j with c | c | c
      · have := List.pairwise_iff_getElem.1 h.sep i j hi hj c g (by rw [ei]; exact hown)
        rw [ej] at this
        exact this hg
      · subst c
        rw [ei] at ej
        exact hpi (by rw [← ej])
      · have := List.pairwise_iff_getElem.1 h.sep j i hj hi c g (by rw [ej]; exact hg)
        rw [ei] at this
        exact this hown
    · simp [rowOf, Value.ownBlock] at e
  refine ⟨p', cap', w8, w9, g1, e1, ⟨e2, fun p hp => ?_, ?_, fun p hp => ?_, fun k hk => ?_, ?_⟩, fun i hi hn => ?_, ⟨g4, by rw [e4]; exact g4⟩, ⟨e3.os.trans g5.1, e3.tape.trans g5.2.1, e3.output.trans g5.2.2⟩, fun g hg => ?_⟩
  · rcases (mem p).1 hp with rfl | ⟨hp, _⟩
    · exact hid
    · exact h.inn p hp
  · unfold vtPut
    rcases hat with hin | ⟨hn, _⟩
    · rw [if_pos (List.any_eq_true.2 ⟨_, hin, by simp⟩), List.pairwise_map]
      refine h.keys.imp fun {a b} hab => ?_
      by_cases ea : a.1 = id <;> by_cases eb : b.1 = id
      · exact absurd (ea.trans eb.symm) hab
      · rw [if_pos ea, if_neg eb]; exact fun e => eb e.symm
      · rw [if_neg ea, if_pos eb]; exact ea
      · rw [if_neg ea, if_neg eb]; exact hab
    · rw [if_neg (fun e => by
        obtain ⟨p, hp, e⟩ := List.any_eq_true.1 e
        exact hn p hp (of_decide_eq_true e))]
      exact List.pairwise_append.2 ⟨h.keys, List.pairwise_singleton _ _, fun p hp r hr => by
        rw [List.mem_singleton] at hr; subst hr
        exact hn p hp⟩
  · rcases (mem p).1 hp with rfl | ⟨hp, hpi⟩
    · refine ⟨p', cap', ?_, ?_⟩
      · unfold verPut; rw [if_pos rfl, List.length_append]; rfl
      · unfold verPut; rw [if_pos rfl]
        exact g2.kept fun g hg => hvr9 g (hne8 g hg) (g2.lt g hg).2
    · obtain ⟨q2, c2, e, hr2⟩ := h.row p hp
      refine ⟨q2, c2, by unfold verPut; rw [if_neg hpi]; exact e, ?_⟩
      unfold verPut
      rw [if_neg hpi]
      refine hr2.kept fun g hg => ?_
      have hgo : p.2.ownBlock = some g := by rw [e]; exact own_row.2 hg
      obtain ⟨o1, o2, o3⟩ := oth p hp hpi g hgo
      exact (hvr9 g o3 (Nat.lt_of_lt_of_le o2 g4)).trans ((g3 g o2 o1).trans (hk g (mem_rows.2 ⟨p, hp, hgo⟩)))
  · have hki : k ≠ id := fun e => hk _ ((mem _).2 (.inl rfl)) (by rw [e])
    unfold verPut
    rw [if_neg hki]
    exact h.nope k (fun p hp e => hk p ((mem p).2 (.inr ⟨hp, by rw [e]; exact hki⟩)) e)
  · have newfar : ∀ p, p ∈ vt → p.1 ≠ id → ∀ g, p.2.ownBlock = some g → (Value.slice p' ((ver id).length + 1) cap').ownBlock ≠ some g := fun p hp hpi g hg e => by
      obtain ⟨o1, o2, o3⟩ := oth p hp hpi g hg
      rcases p'far g (own_row.1 e) with e2 | e2
      · exact o1 e2
      · omega
    unfold vtPut
    rcases hat with hin | ⟨hn, _⟩
    · rw [if_pos (List.any_eq_true.2 ⟨_, hin, by simp⟩), List.pairwise_map]
      refine (h.sep.and h.keys).imp_of_mem fun {a b} ha hb hab => ?_
      intro g
      by_cases ea : a.1 = id <;> by_cases eb : b.1 = id
      · exact absurd (ea.trans eb.symm) hab.2
      · rw [if_pos ea, if_neg eb]
        exact fun e1 e2 => newfar b hb eb g e2 e1
      · rw [if_neg ea, if_pos eb]
        exact fun e1 e2 => newfar a ha ea g e1 e2
      · rw [if_neg ea, if_neg eb]; exact hab.1 g
    · rw [if_neg (fun e => by
        obtain ⟨p, hp, e⟩ := List.any_eq_true.1 e
        exact hn p hp (of_decide_eq_true e))]
      exact List.pairwise_append.2 ⟨h.sep, List.pairwise_singleton _ _, fun p hp r hr g e1 e2 => by
        rw [List.mem_singleton] at hr; subst hr
        exact newfar p hp (hn p hp) g e1 e2⟩
  · have hiq : i ∉ rowOf q := fun e => hn (hq i e)
    exact ⟨g3 i hi hiq, fun hv => (hvr9 i hv (Nat.lt_of_lt_of_le hi g4)).trans (g3 i hi hiq)⟩
  · obtain ⟨p, hp, hg⟩ := mem_rows.1 hg
    rcases (mem p).1 hp with rfl | ⟨hp, _⟩
    · rcases p'far g (own_row.1 hg) with e | e
      · exact .inl (hq g e)
      · exact .inr (by omega)
    · exact .inl (mem_rows.2 ⟨p, hp, hg⟩)
end Go.Proofs.YtoihekgmomjhpaaGreatDoor

/-
  Layer 9: two timers that differ are told apart by '=='. No condition.
-/
set_option linter.unusedVariables false
set_option linter.unusedSimpArgs false
namespace Go.Proofs.YtoihekgmomjhpaaGreatDoor
open Go.RowKit Crn Nxt Ste
set_option maxRecDepth 100000
theorem toList_inj {x y : ByteArray} (h : x.toList = y.toList) : x = y := by
  rw [ByteArray.toList_eq, ByteArray.toList_eq] at h
  exact WideShapes.bytes_inj h
set_option maxHeartbeats 2000000 in
theorem teq_no (a b : Tm) (h : a ≠ b) (W : World) : (Op.equalIn 10000 55 (tmV a) (tmV b)).run Tryz.prog W = .ok false W := by
  obtain ⟨a0, a1, a2, a3, a4⟩ := a
  obtain ⟨b0, b1, b2, b3, b4⟩ := b
  rw [show (10000 : Nat) = 9999 + 1 from rfl, run_equalIn_agg W 9999 55 _ _ (by kernel_rfl) (by kernel_rfl)]
  by_cases h0 : a0 = b0
  · subst h0
    by_cases h1 : a1 = b1
    · subst h1
      by_cases h2 : a2 = b2
      · subst h2
        by_cases h3 : a3 = b3
        · subst h3
          by_cases h4 : a4 = b4
          · subst h4; exact absurd rfl h
          · have h4 : ¬ a4.toList = b4.toList := fun e => h4 (toList_inj e)
            simp [go_sem, Op.eqFields, part, Tryz.underlying3, Tryz.underlying9, h4]
        · simp [go_sem, Op.eqFields, part, Tryz.underlying3, Tryz.underlying9, h3]
      · simp [go_sem, Op.eqFields, part, Tryz.underlying3, Tryz.underlying9, h2]
    · simp [go_sem, Op.eqFields, part, Tryz.underlying3, Tryz.underlying9, h1]
  · simp [go_sem, Op.eqFields, part, Tryz.underlying3, Tryz.underlying9, h0]
theorem teq_yes (a : Tm) (W : World) : (Op.equalIn 10000 55 (tmV a) (tmV a)).run Tryz.prog W = .ok true W := by
  rw [show (10000 : Nat) = 9999 + 1 from rfl, run_equalIn_agg W 9999 55 _ _ (by kernel_rfl) (by kernel_rfl)]
  simp [go_sem, Op.eqFields, part, Tryz.underlying3, Tryz.underlying9]
end Go.Proofs.YtoihekgmomjhpaaGreatDoor

/-
  Layer 9: a log in memory: its block, its rows, its two maps; which timers its wheel holds.
-/
set_option linter.unusedVariables false
namespace Go.Proofs.YtoihekgmomjhpaaGreatDoor
open Go.RowKit Go.MapKept Crn Nxt Ste
set_option maxRecDepth 100000
/-! The wheel's pairs. -/
theorem nodup_len {α : Type} [DecidableEq α] : ∀ {l m : List α}, l.Nodup → (∀ a ∈ l, a ∈ m) → l.length ≤ m.length
  | [], _, _, _ => by simp
  | a :: l, m, h, hs => by
    have h1 := List.nodup_cons.1 h
    have ha : a ∈ m := hs a (by simp)
    have := nodup_len (m := m.erase a) h1.2 fun x hx => (List.mem_erase_of_ne (by rintro rfl; exact h1.1 hx)).2 (hs x (by simp [hx]))
    rw [List.length_erase_of_mem ha] at this
    have : 0 < m.length := List.length_pos_of_mem ha
    simp only [List.length_cons]
    omega
/-- The wheel holds the timers that fire. -/
structure WIn (l : List Whl.ItemN) (T : List Tm) : Prop where
  nodup : l.Nodup
  has : ∀ a i : Nat, (a, i) ∈ l ↔ 0 < a ∧ (valT T (i : Int)).due = (a : Int)
section
variable {l : List Whl.ItemN} {T T0 : List Tm}
theorem WIn.nil : WIn [] [] := by
  refine ⟨List.nodup_nil, fun a i => ⟨fun h => (List.not_mem_nil h).elim, fun h => ?_⟩⟩
  have e : (valT [] (i : Int)).due = 0 := rfl
  rw [e] at h
  omega
theorem val_mem {i : Int} (h : (valT T i).due ≠ 0) : ∃ t ∈ T, t.id = i ∧ t = valT T i := by
  unfold valT at h ⊢
  cases hf : find i T with
  | none => rw [hf] at h; exact absurd rfl h
  | some t => exact ⟨t, (find_some hf).1, (find_some hf).2, rfl⟩
theorem WIn.len (h : WIn l T) : l.length ≤ T.length := by
  have := nodup_len (m := T.map fun t => (t.due.toNat, t.id.toNat)) h.nodup fun p hp => by
    obtain ⟨a, i⟩ := p
    obtain ⟨h1, h2⟩ := (h.has a i).1 hp
    obtain ⟨t, ht, e1, e2⟩ := val_mem (T := T) (i := i) (by omega)
    rw [← e2] at h2
    exact List.mem_map.2 ⟨t, ht, by rw [h2, e1]; simp⟩
  simpa using this
theorem WIn.same (h : WIn l T0) (ho : ∀ i, (valT T i).due = (valT T0 i).due) : WIn l T := ⟨h.nodup, fun a i => by rw [ho]; exact h.has a i⟩
theorem WIn.none (h : WIn l T0) {id : Int} (h0 : (valT T0 id).due ≤ 0) : ∀ p, p ∈ l → (p.2 : Int) ≠ id := fun p hp e => by
  obtain ⟨h1, h2⟩ := (h.has p.1 p.2).1 hp
  rw [e] at h2
  omega
theorem WIn.setNew (h : WIn l T0) {n a : Nat} (ho : ∀ i, i ≠ (n : Int) → valT T i = valT T0 i) (h0 : (valT T0 n).due ≤ 0) (ha : 0 < a) (hd : (valT T n).due = a) : WIn (Whl.ins (a, n) l) T := by
  have hn := h.none h0
  refine ⟨(Whl.ins_perm _ _).nodup_iff.2 (List.nodup_cons.2 ⟨fun e => hn _ e rfl, h.nodup⟩), fun b i => ?_⟩
  rw [Whl.mem_ins]
  by_cases e : i = n
  · subst e
    constructor
    · rintro (g | g)
      · injection g with g _; subst g; exact ⟨ha, hd⟩
      · exact absurd rfl (hn _ g)
    · rintro ⟨g1, g2⟩
      left
      have : (b : Int) = a := by rw [← g2, ← hd]
      rw [show b = a by omega]
  · rw [ho i (by omega), h.has b i]
    constructor
    · rintro (g | g)
      · injection g with _ g; exact absurd g e
      · exact g
    · exact fun g => .inr g
theorem WIn.out (h : WIn l T0) {n a0 : Nat} (ho : ∀ i, i ≠ (n : Int) → valT T i = valT T0 i) (hp : (a0, n) ∈ l) (hd : (valT T n).due ≤ 0) : WIn (l.filter (· != (a0, n))) T := by
  have h0 := (h.has a0 n).1 hp
  refine ⟨h.nodup.filter _, fun b i => ?_⟩
  rw [List.mem_filter, bne_iff_ne]
  by_cases e : i = n
  · subst e
    constructor
    · rintro ⟨g, g2⟩
      obtain ⟨g3, g4⟩ := (h.has b i).1 g
      exact absurd (by rw [show b = a0 by have := h0.2; omega]) g2
    · rintro ⟨g1, g2⟩; omega
  · rw [ho i (by omega), h.has b i]
    exact ⟨fun g => g.1, fun g => ⟨g, fun k => e (by injection k)⟩⟩
theorem WIn.setOld (h : WIn l T0) {n a0 a : Nat} (ho : ∀ i, i ≠ (n : Int) → valT T i = valT T0 i) (hp : (a0, n) ∈ l) (ha : 0 < a) (hd : (valT T n).due = a) : WIn (Whl.ins (a, n) (l.filter (· != (a0, n)))) T := by
  have h0 := (h.has a0 n).1 hp
  have hu : ∀ b, (b, n) ∈ l → b = a0 := fun b g => by
    have := ((h.has b n).1 g).2
    have := h0.2
    omega
  refine ⟨(Whl.ins_perm _ _).nodup_iff.2 (List.nodup_cons.2 ⟨fun e => ?_, h.nodup.filter _⟩), fun b i => ?_⟩
  · rw [List.mem_filter, bne_iff_ne] at e
    exact e.2 (by rw [hu a e.1])
  rw [Whl.mem_ins, List.mem_filter, bne_iff_ne]
  by_cases e : i = n
  · subst e
    constructor
    · rintro (g | ⟨g, g2⟩)
      · injection g with g _; subst g; exact ⟨ha, hd⟩
      · exact absurd (by rw [hu b g]) g2
    · rintro ⟨g1, g2⟩
      left
      have : (b : Int) = a := by rw [← g2, ← hd]
      rw [show b = a by omega]
  · rw [ho i (by omega), h.has b i]
    constructor
    · rintro (g | g)
      · injection g with _ g; exact absurd g e
      · exact g.1
    · exact fun g => .inr ⟨g, fun k => e (by injection k)⟩
end
/-! The log's block, rows and maps. -/
abbrev rpC (r : Rp) : Array Value := #[.int .i64 r.err, .int .i64 r.gen, .int .i64 r.due]
theorem infoOp : (Tryz.prog.info? 31).map (fun i => (i.zero, i.size, i.bytes)) = some (some (.agg #[.int .i64 0, .int .i64 0, .int .i64 0, .int .i64 0, .int .i64 0, .int .i64 0, .int .i64 0, .int .i64 0, .int .i64 0, .string ⟨#[]⟩]), 10, 88) := by kernel_rfl
theorem infoRp : (Tryz.prog.info? 34).map (fun i => (i.zero, i.size, i.bytes)) = some (some (.agg #[.int .i64 0, .int .i64 0, .int .i64 0]), 3, 24) := by kernel_rfl
theorem opC_one (x : OpN) : ∀ u ∈ (opC x).toList, u.oneCell' = true := by
  intro u hu
  simp only [List.mem_cons, List.not_mem_nil, or_false] at hu
  rcases hu with rfl | rfl | rfl | rfl | rfl | rfl | rfl | rfl | rfl | rfl <;> rfl
theorem rpC_one (x : Rp) : ∀ u ∈ (rpC x).toList, u.oneCell' = true := by
  intro u hu
  simp only [List.mem_cons, List.not_mem_nil, or_false] at hu
  rcases hu with rfl | rfl | rfl <;> rfl
abbrev ORow := SRow opC 31 10
abbrev PRow := SRow rpC 34 3
/-- Where all of it lies. -/
structure Pl where
  lb : Nat
  op : Option Addr
  oc : Nat
  rp : Option Addr
  rc : Nat
  rq : Nat
  vr : Nat
  vt : List (Int × Value)
  fp : Option Addr
  fc : Nat
/-- What it holds. -/
structure Lo where
  ops : List OpN
  rps : List Rp
  rt : List ((Int × Int) × Nat)
  ver : Int → List (Nat × Rp)
  fires : List FireR
abbrev logC (x : Pl) (g : Lo) (b wb : Nat) : Array Value := #[.pointer (some ⟨b, 0, none⟩), .pointer (some ⟨wb, 0, none⟩), .slice x.op g.ops.length x.oc, .slice x.rp g.rps.length x.rc, .map (some x.rq), .map (some x.vr), .slice x.fp g.fires.length x.fc]
def ownL (x : Pl) : List Nat := x.lb :: (rowOf x.op ++ rowOf x.rp ++ [x.rq, x.vr] ++ rowsOf x.vt ++ rowOf x.fp)
structure LP (base : Nat) (w : World) (b wb : Nat) (x : Pl) (g : Lo) : Prop where
  box : w.heap[x.lb]? = some (.cells (logC x g b wb) 81)
  ops : ORow base w x.op x.oc g.ops
  rps : PRow base w x.rp x.rc g.rps
  req : RMap w x.rq g.rt
  rok : ROk g.rt
  ver : Vers base w x.vr x.vt g.ver
  fir : FRow base w x.fp x.fc g.fires
  two : x.rq ≠ x.vr
section
variable {base b wb : Nat} {w : World} {x : Pl} {g : Lo}
theorem mem_ownL {x : Pl} {k : Nat} : k ∈ ownL x ↔ k = x.lb ∨ k ∈ rowOf x.op ∨ k ∈ rowOf x.rp ∨ k = x.rq ∨ k = x.vr ∨ k ∈ rowsOf x.vt ∨ k ∈ rowOf x.fp := by
  unfold ownL
  simp only [List.mem_cons, List.mem_append, List.not_mem_nil, or_false, or_assoc]
theorem LP.kept {w' : World} (h : LP base w b wb x g) (hk : ∀ k, k ∈ ownL x → w'.heap[k]? = w.heap[k]?) : LP base w' b wb x g :=
  ⟨(hk _ (mem_ownL.2 (.inl rfl))).trans h.box, h.ops.kept fun k e => hk k (mem_ownL.2 (.inr (.inl e))), h.rps.kept fun k e => hk k (mem_ownL.2 (.inr (.inr (.inl e)))),
    h.req.kept (hk _ (mem_ownL.2 (.inr (.inr (.inr (.inl rfl)))))), h.rok, h.ver.kept (hk _ (mem_ownL.2 (.inr (.inr (.inr (.inr (.inl rfl))))))) fun k e => hk k (mem_ownL.2 (.inr (.inr (.inr (.inr (.inr (.inl e)))))) ),
    h.fir.kept fun k e => hk k (mem_ownL.2 (.inr (.inr (.inr (.inr (.inr (.inr e))))))), h.two⟩
theorem LP.stab (b wb : Nat) (x : Pl) (g : Lo) : Stab (ownL x) (fun w => LP base w b wb x g) := fun w w' _ hb h => h.kept hb
theorem LP.lt (h : LP base w b wb x g) (hb : base ≤ x.lb ∧ base ≤ x.rq ∧ base ≤ x.vr) : ∀ k, k ∈ ownL x → base ≤ k ∧ k < w.heap.size := fun k hk => by
  rcases mem_ownL.1 hk with rfl | e | e | rfl | rfl | e | e
  · exact ⟨hb.1, lt_in h.box⟩
  · exact h.ops.lt k e
  · exact h.rps.lt k e
  · exact ⟨hb.2.1, h.req.lt⟩
  · exact ⟨hb.2.2, h.ver.lt.1⟩
  · exact h.ver.lt.2 k e
  · exact h.fir.lt k e
/-- Its blocks are unlike one another. -/
theorem LP.apart (h : LP base w b wb x g) :
    (x.lb ∉ rowOf x.op ∧ x.lb ∉ rowOf x.rp ∧ x.lb ≠ x.rq ∧ x.lb ≠ x.vr ∧ x.lb ∉ rowsOf x.vt ∧ x.lb ∉ rowOf x.fp) ∧
    (∀ k, k ∈ rowOf x.op → k ∉ rowOf x.rp ∧ k ≠ x.rq ∧ k ≠ x.vr ∧ k ∉ rowsOf x.vt ∧ k ∉ rowOf x.fp) ∧
    (∀ k, k ∈ rowOf x.rp → k ≠ x.rq ∧ k ≠ x.vr ∧ k ∉ rowsOf x.vt ∧ k ∉ rowOf x.fp) ∧
    (x.rq ∉ rowsOf x.vt ∧ x.rq ∉ rowOf x.fp) ∧ (x.vr ∉ rowsOf x.vt ∧ x.vr ∉ rowOf x.fp) ∧ ∀ k, k ∈ rowsOf x.vt → k ∉ rowOf x.fp := by
  have hB := h.box
  have hO := h.ops.type
  have hP := h.rps.type
  have hF := h.fir.type
  have hV := h.ver.type
  have hq : ∃ m n, w.heap[x.rq]? = some (.map m n) := by obtain ⟨m, n, e, _⟩ := h.req; exact ⟨m, n, e⟩
  have hv : ∃ m n, w.heap[x.vr]? = some (.map m n) := by obtain ⟨m, n, e, _⟩ := h.ver.map; exact ⟨m, n, e⟩
  have tt : ∀ {k : Nat} {T T' : TypeId} {a a' : Array Value} {z z' : Nat × Nat}, w.heap[k]? = some (.cells a T z) → w.heap[k]? = some (.cells a' T' z') → T ≠ T' → False := fun e1 e2 e3 => by
    rw [e1] at e2; injection e2 with e2; injection e2 with _ e2 _; exact e3 e2
  have tm : ∀ {k : Nat} {T : TypeId} {a : Array Value} {z : Nat × Nat} {j : Nat}, w.heap[k]? = some (.cells a T z) → (∃ m n, w.heap[j]? = some (.map m n)) → k = j → False := fun e1 ⟨m, n, e2⟩ e3 => by
    subst e3; rw [e1] at e2; injection e2 with e2; cases e2
  refine ⟨⟨fun e => ?_, fun e => ?_, fun e => tm hB hq e, fun e => tm hB hv e, fun e => ?_, fun e => ?_⟩, fun k k1 => ⟨fun e => ?_, fun e => ?_, fun e => ?_, fun e => ?_, fun e => ?_⟩, fun k k1 => ⟨fun e => ?_, fun e => ?_, fun e => ?_, fun e => ?_⟩, ⟨fun e => ?_, fun e => ?_⟩, ⟨fun e => ?_, fun e => ?_⟩, fun k k1 e => ?_⟩
  · obtain ⟨c, hc⟩ := hO _ e; exact tt hB hc (by decide)
  · obtain ⟨c, hc⟩ := hP _ e; exact tt hB hc (by decide)
  · obtain ⟨c, hc⟩ := hV _ e; exact tt hB hc (by decide)
  · obtain ⟨c, hc⟩ := hF _ e; exact tt hB hc (by decide)
  · obtain ⟨d, hd⟩ := hO _ k1; obtain ⟨c, hc⟩ := hP _ e; exact tt hd hc (by decide)
  · obtain ⟨d, hd⟩ := hO _ k1; exact tm hd hq e
  · obtain ⟨d, hd⟩ := hO _ k1; exact tm hd hv e
  · obtain ⟨d, hd⟩ := hO _ k1; obtain ⟨c, hc⟩ := hV _ e; exact tt hd hc (by decide)
  · obtain ⟨d, hd⟩ := hO _ k1; obtain ⟨c, hc⟩ := hF _ e; exact tt hd hc (by decide)
  · obtain ⟨d, hd⟩ := hP _ k1; exact tm hd hq e
  · obtain ⟨d, hd⟩ := hP _ k1; exact tm hd hv e
  · obtain ⟨d, hd⟩ := hP _ k1; obtain ⟨c, hc⟩ := hV _ e; exact tt hd hc (by decide)
  · obtain ⟨d, hd⟩ := hP _ k1; obtain ⟨c, hc⟩ := hF _ e; exact tt hd hc (by decide)
  · obtain ⟨c, hc⟩ := hV _ e; exact tm hc hq rfl
  · obtain ⟨c, hc⟩ := hF _ e; exact tm hc hq rfl
  · obtain ⟨c, hc⟩ := hV _ e; exact tm hc hv rfl
  · obtain ⟨c, hc⟩ := hF _ e; exact tm hc hv rfl
  · obtain ⟨d, hd⟩ := hV _ k1; obtain ⟨c, hc⟩ := hF _ e; exact tt hd hc (by decide)
end
end Go.Proofs.YtoihekgmomjhpaaGreatDoor

/-
  Layer 9: a log, its service, its wheel, and a call's own blocks beside them.
-/
set_option linter.unusedVariables false
namespace Go.Proofs.YtoihekgmomjhpaaGreatDoor
open Go.RowKit Go.MapKept Crn Nxt Ste
set_option maxRecDepth 100000
theorem LP.in_ {base b wb : Nat} {w : World} {x : Pl} {g : Lo} (h : LP base w b wb x g) : ∀ k, k ∈ ownL x → k < w.heap.size := fun k hk => by
  rcases mem_ownL.1 hk with rfl | e | e | rfl | rfl | e | e
  · exact lt_in h.box
  · exact (h.ops.lt k e).2
  · exact (h.rps.lt k e).2
  · exact h.req.lt
  · exact h.ver.lt.1
  · exact (h.ver.lt.2 k e).2
  · exact (h.fir.lt k e).2
structure Lx (w0 w : World) (b : Nat) (s : St) (c wb now : Nat) (l : List Whl.ItemN) (x : Pl) (g : Lo) (M : List Nat) (PP : World → Prop) : Prop where
  lw : Lw w0 w b s c wb now l (M ++ ownL x) (fun W => PP W ∧ LP w0.heap.size W b wb x g)
  far : ∀ k, k ∈ M → k ∉ ownL x
  st : Stab M PP
section
variable {w0 w w' : World} {b c wb now : Nat} {s : St} {l : List Whl.ItemN} {x : Pl} {g : Lo} {M : List Nat} {PP : World → Prop}
theorem Lx.lp (h : Lx w0 w b s c wb now l x g M PP) : LP w0.heap.size w b wb x g := h.lw.here.2
theorem Lx.pp (h : Lx w0 w b s c wb now l x g M PP) : PP w := h.lw.here.1
theorem Lx.below (h : Lx w0 w b s c wb now l x g M PP) (k : Below w.heap.size w w') : Lx w0 w' b s c wb now l x g M PP := ⟨h.lw.below k, h.far, h.st⟩
theorem Lx.alloc (h : Lx w0 w b s c wb now l x g M PP) (o : Obj) : Lx w0 (w.alloc o) b s c wb now l x g M PP := ⟨h.lw.alloc o, h.far, h.st⟩
theorem Lx.drew (h : Lx w0 w b s c wb now l x g M PP) : Lx w0 w.drew b s c wb now l x g M PP := ⟨h.lw.drewN 1, h.far, h.st⟩
theorem stab_cons {L : List Nat} {P : World → Prop} (q : Nat) (O : Obj) (h : Stab L P) : Stab (q :: L) (fun W => W.heap[q]? = some O ∧ P W) := fun w w' hs hb hp =>
  ⟨(hb q (by simp)).trans hp.1, h w w' hs (fun k e => hb k (List.mem_cons_of_mem _ e)) hp.2⟩
/-- A block of the call's own. -/
theorem Lx.tmp (h : Lx w0 w b s c wb now l x g M PP) (O : Obj) : Lx w0 (w.alloc O) b s c wb now l x g (w.heap.size :: M) (fun W => W.heap[w.heap.size]? = some O ∧ PP W) := by
  have h1 := h.alloc O
  have hs : (w.alloc O).heap.size = w.heap.size + 1 := by simp
  refine ⟨h.lw.mine (Kl.ofBelow ((Below.refl _ _).alloc (Nat.le_refl _) _)) (fun i hi => ?_) ((stab_cons _ _ h.st).and (LP.stab _ _ _ _)) ⟨⟨Go.heap_alloc_new w _, h1.pp⟩, h1.lp⟩, fun k hk e => ?_, stab_cons _ _ h.st⟩
  · rcases List.mem_append.1 hi with g1 | g1
    · rcases List.mem_cons.1 g1 with rfl | g2
      · exact ⟨.inr (Nat.le_refl _), by omega⟩
      · exact ⟨.inl (List.mem_append.2 (.inl g2)), (h1.lw.lt i (List.mem_append.2 (.inl g2))).2⟩
    · exact ⟨.inl (List.mem_append.2 (.inr g1)), (h1.lw.lt i (List.mem_append.2 (.inr g1))).2⟩
  · rcases List.mem_cons.1 hk with rfl | g2
    · have := h.lp.in_ _ e
      omega
    · exact h.far k g2 e
theorem Lx.pop {q : Nat} {O : Obj} (h : Lx w0 w b s c wb now l x g (q :: M) (fun W => W.heap[q]? = some O ∧ PP W)) (st : Stab M PP) : Lx w0 w b s c wb now l x g M PP := by
  have hin : ∀ i, i ∈ M ++ ownL x → i ∈ (q :: M) ++ ownL x := fun i hi => by
    rcases List.mem_append.1 hi with e | e
    · exact List.mem_append.2 (.inl (List.mem_cons_of_mem _ e))
    · exact List.mem_append.2 (.inr e)
  exact ⟨h.lw.mine (Kl.refl _ _) (fun i hi => ⟨.inl (hin i hi), (h.lw.lt i (hin i hi)).2⟩) (st.and (LP.stab _ _ _ _)) ⟨h.pp.2, h.lp⟩, fun k hk => h.far k (List.mem_cons_of_mem _ hk), st⟩
/-- The call's own blocks turn. -/
theorem Lx.turn (h : Lx w0 w b s c wb now l x g M PP) (k : Kl M w w') {QQ : World → Prop} (st : Stab M QQ) (q : QQ w') : Lx w0 w' b s c wb now l x g M QQ := by
  refine ⟨h.lw.mine (k.mono fun i hi => .inl (List.mem_append.2 (.inl hi))) (fun i hi => ⟨.inl hi, Nat.lt_of_lt_of_le (h.lw.lt i hi).2 k.size⟩) (st.and (LP.stab _ _ _ _)) ⟨q, h.lp.kept fun i hi => k.block i (h.lp.in_ i hi) (fun e => h.far i e hi)⟩, h.far, st⟩
/-- The log's blocks turn. -/
theorem Lx.own (h : Lx w0 w b s c wb now l x g M PP) {x' : Pl} {g' : Lo} (k : Kl (ownL x) w w') (q : LP w0.heap.size w' b wb x' g') (hn : ∀ i, i ∈ ownL x' → i ∈ ownL x ∨ w.heap.size ≤ i) : Lx w0 w' b s c wb now l x' g' M PP := by
  have hm : ∀ i, i ∈ M → i < w.heap.size := fun i hi => (h.lw.lt i (List.mem_append.2 (.inl hi))).2
  refine ⟨h.lw.mine (k.mono fun i hi => .inl (List.mem_append.2 (.inr hi))) (fun i hi => ?_) (h.st.and (LP.stab _ _ _ _)) ⟨h.st w w' k.size (fun i hi => k.block i (hm i hi) (h.far i hi)) h.pp, q⟩, fun i hi e => ?_, h.st⟩
  · rcases List.mem_append.1 hi with e | e
    · exact ⟨.inl (List.mem_append.2 (.inl e)), Nat.lt_of_lt_of_le (hm i e) k.size⟩
    · refine ⟨?_, q.in_ i e⟩
      rcases hn i e with f | f
      · exact .inl (List.mem_append.2 (.inr f))
      · exact .inr f
  · rcases hn i e with f | f
    · exact h.far i hi f
    · have := hm i hi
      omega
theorem Lx.get (h : Lx w0 w b s c wb now l x g M PP) (id : Int) (hid : i64 id) : Calls Tryz.prog 30 #[.pointer (some ⟨b, 0, none⟩), .int .i64 id] w fun e w' => e = .returned (.tuple #[tmV (valT s.T id), .int .i64 (getE s.T id)]) ∧ Lx w0 w' b s c wb now l x g M PP :=
  (h.lw.get id hid).mono fun e w' ⟨he, k⟩ => ⟨he, h.below k⟩
theorem Lx.apply (h : Lx w0 w b s c wb now l x g M PP) (tb : Tab w0) (nt : NTab w0) (hc : c ≤ 900000) (o : OpN) (ho : OpOk o) :
    Calls Tryz.prog 31 #[.pointer (some ⟨b, 0, none⟩), opV o] w fun e w' => e = .returned (rpV (applyN s o).2) ∧ Lx w0 w' b (applyN s o).1 (c + 1) wb now l x g M PP :=
  (h.lw.apply tb nt hc o ho).mono fun e w' ⟨he, k⟩ => ⟨he, k, h.far, h.st⟩
end
end Go.Proofs.YtoihekgmomjhpaaGreatDoor
