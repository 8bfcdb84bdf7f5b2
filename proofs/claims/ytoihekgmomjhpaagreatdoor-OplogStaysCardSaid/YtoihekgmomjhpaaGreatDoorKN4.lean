/-
  Texts laid into one (a claim has 60 files at most): NAwake.
-/
import Derived.Test.YtoihekgmomjhpaaGreatDoorKC2
import Derived.Test.YtoihekgmomjhpaaGreatDoorKN1
import Derived.Test.YtoihekgmomjhpaaGreatDoorKC4
import Derived.Test.YtoihekgmomjhpaaGreatDoorKN2
import Derived.Test.YtoihekgmomjhpaaGreatDoorKN3
import Derived.Deep.RegionHeld3
import Derived.WalkSpells
import Derived.Deep.QuietTactic
import Derived.BigQuiet
/-
  Layer 5: a cache's map of readings: what is found, and what is put in.
  Layer 5: a cache's readingOf: the reading that all who ask for a text share.
  Layer 5: a cache's Next, New and Counts.
  Layer 5: a cache: New, Next of any text, Counts, and a nil one.
  Layer 5: the answers that the document fixes, in plain numbers.
  Layer 5: the fixed answers that every statement asks first.
-/
set_option linter.unusedVariables false
namespace Go.Proofs.YtoihekgmomjhpaaGreatDoor
open Go.RowKit Crn Go.ChangeMaps
def ptr (b : Nat) : Value := .pointer (some ⟨b, 0, none⟩)
/-- The block mb is a map of these texts, each with its reading's block. -/
def PtrMap (w : World) (mb : Nat) (l : List (ByteArray × Nat)) : Prop :=
  ∃ es clock, w.heap[mb]? = some (.map es clock) ∧ es.toList.map (fun e => (e.key, e.val)) = l.map fun p => (Value.string p.1, ptr p.2)
theorem key_all (s : ByteArray) (h : s.size ≤ 281474976710656) : keyOf Tryz.prog 9 (.string s) = some (.string s.data.toList) :=
  Go.WideMaps.keyOf_string_mk Tryz.underlying9 (by unfold maxLen; omega)
theorem mapR : Tryz.prog.underlying 144 = some (.map 9 168) := Tryz.underlying144
theorem ptr_keys {l : List (ByteArray × Nat)} {es : Array MapEntry} (hl : ∀ p ∈ l, p.1.size ≤ 281474976710656) (he : es.toList.map (fun e => (e.key, e.val)) = l.map fun p => (Value.string p.1, ptr p.2)) :
    (∀ e ∈ es.toList, ∃ k, keyOf Tryz.prog 9 e.key = some k) ∧ ∀ e ∈ es.toList, ∃ p ∈ l, e.key = .string p.1 ∧ e.val = ptr p.2 := by
  have h2 : ∀ e ∈ es.toList, ∃ p ∈ l, e.key = .string p.1 ∧ e.val = ptr p.2 := fun e h => by
    have : (e.key, e.val) ∈ l.map fun p => (Value.string p.1, ptr p.2) := by
      rw [← he]
      exact List.mem_map.2 ⟨e, h, rfl⟩
    obtain ⟨p, hp, e1⟩ := List.mem_map.1 this
    injection e1 with a b
    exact ⟨p, hp, a.symm, b.symm⟩
  refine ⟨fun e h => ?_, h2⟩
  obtain ⟨p, hp, e1, _⟩ := h2 e h
  rw [e1]
  exact ⟨_, key_all p.1 (hl p hp)⟩
def ptrOf : Option Nat → Value
  | some b => ptr b
  | none => .pointer none
theorem ptr_look {w : World} {b : Nat} {l : List (ByteArray × Nat)} (hm : PtrMap w b l) (hl : ∀ p ∈ l, p.1.size ≤ 281474976710656) (hd : l.Pairwise (fun p q => p.1 ≠ q.1)) (s : ByteArray) (hs : s.size ≤ 281474976710656) :
    (Instr.lookup 144 (.map (some b)) (.string s) false).run Tryz.prog w = .ok (ptrOf (look s l)) w := by
  obtain ⟨es, clock, hb, he⟩ := hm
  obtain ⟨k1, k2⟩ := ptr_keys hl he
  rcases keyed9.find w (key_all s hs) es.toList k1 with ⟨h1, h2⟩ | ⟨j, e0, h1, h2, h3⟩
  · have hn : look s l = none := look_none fun p hp e => by
      have : (Value.string p.1, ptr p.2) ∈ es.toList.map (fun e => (e.key, e.val)) := by
        rw [he]
        exact List.mem_map.2 ⟨p, hp, rfl⟩
      obtain ⟨x, hx, ex⟩ := List.mem_map.1 this
      injection ex with a _
      exact h2 x hx (by rw [a, e])
    rw [hn]
    simp [Instr.lookup, run_underlying mapR, MapKept.run_getObj_map hb, keyed9.check w _ (key_all s hs), h1, Result.andThen, ptrOf]
  · obtain ⟨p, hp, e1, e2⟩ := k2 e0 (List.mem_of_getElem? h2)
    have hn : look s l = some p.2 := look_some hd (by
      rw [h3] at e1
      injection e1 with e1
      subst e1
      exact hp)
    rw [hn]
    simp [Instr.lookup, run_underlying mapR, MapKept.run_getObj_map hb, keyed9.check w _ (key_all s hs), h1, Result.andThen, ptrOf, e2]
theorem ptr_look_nil (w : World) (s : ByteArray) (hs : s.size ≤ 281474976710656) :
    (Instr.lookup 144 (.map none) (.string s) false).run Tryz.prog w = .ok (.pointer none) w := by
  rcases keyed9.find w (key_all s hs) [] (fun e h => by cases h) with ⟨h1, _⟩ | ⟨j, e0, h1, h2, h3⟩
  · simp [Instr.lookup, run_underlying mapR, keyed9.check w _ (key_all s hs), h1, Result.andThen]
  · simp at h2
theorem PtrMap.made (w : World) : PtrMap (w.alloc (.map #[] 0)) w.heap.size [] := ⟨#[], 0, (MapKept.heap_alloc w _).1, rfl⟩
theorem ptr_insert {w : World} {b : Nat} {l : List (ByteArray × Nat)} (hm : PtrMap w b l) (hl : ∀ p ∈ l, p.1.size ≤ 281474976710656) (s : ByteArray) (hs : s.size ≤ 281474976710656) (hn : ∀ p ∈ l, p.1 ≠ s) (v : Nat) :
    ∃ w', (Instr.mapUpdate 144 (.map (some b)) (.string s) (ptr v)).run Tryz.prog w = .ok () w' ∧ PtrMap w' b (l ++ [(s, v)]) ∧ (∀ k, k ≠ b → w'.heap[k]? = w.heap[k]?) ∧ w'.heap.size = w.heap.size ∧ w'.os = w.os ∧ w'.tape = w.tape ∧ w'.output = w.output := by
  obtain ⟨es, clock, hb, he⟩ := hm
  obtain ⟨k1, k2⟩ := ptr_keys hl he
  rcases keyed9.find w (key_all s hs) es.toList k1 with ⟨h1, h2⟩ | ⟨j, e0, h1, h2, h3⟩
  · refine ⟨setBlock w b (.map (es.push ⟨.string s, ptr v, clock⟩) (clock + 1)), ?_, ⟨_, _, heap_setBlock_same hb _, ?_⟩, fun k hk => heap_setBlock_other hb _ hk, by simp [setBlock], rfl, rfl, rfl⟩
    · simp [Instr.mapUpdate, run_underlying mapR, MapKept.run_getObj_map hb, keyed9.check w false (key_all s hs), h1, MapKept.run_setObj_map _ hb, Result.andThen, setBlock]
    · simp [he]
  · obtain ⟨p, hp, e1, e2⟩ := k2 e0 (List.mem_of_getElem? h2)
    rw [h3] at e1
    injection e1 with e1
    exact absurd e1.symm (hn p hp)
theorem makeR_run (W : World) : (Instr.makeMap 144 none).run Tryz.prog W = .ok (.map (some W.heap.size)) (W.alloc (.map #[] 0)) := by
  simp [Instr.makeMap, Result.andThen, go_sem]
end Go.Proofs.YtoihekgmomjhpaaGreatDoor
namespace Go.Proofs.YtoihekgmomjhpaaGreatDoor
open Go.RowKit Crn
/-- A cache in the world: how often it was asked, how many texts were parsed, its map, and the texts that it knows. -/
structure Ca (w : World) (b a p : Nat) (m : Option Nat) (l : List (ByteArray × Nat)) : Prop where
  blk : w.heap[b]? = some (.cells (caCells a p m) 146)
  empty : m = none → l = []
  map : ∀ mb, m = some mb → PtrMap w mb l ∧ topTab < mb
  rd : ∀ q, q ∈ l → w.heap[q.2]? = some (.cells (rdCells 1 0 (spOf q.1) (erOf q.1)) 175) ∧ topTab < q.2 ∧ q.1.size ≤ 281474976710656
  apart : l.Pairwise (fun p q => p.1 ≠ q.1)
  hi : topTab < b
/-- Its blocks. -/
def owned (b : Nat) (m : Option Nat) (l : List (ByteArray × Nat)) : List Nat := b :: (m.toList ++ l.map (·.2))
theorem Ca.kept {w w' : World} {b a p : Nat} {m : Option Nat} {l : List (ByteArray × Nat)} (h : Ca w b a p m l) {L : List Nat} (k : Kl L w w') (hL : ∀ x, x ∈ L → x ∉ owned b m l) : Ca w' b a p m l := by
  have hn : ∀ x, x ∈ owned b m l → x ∉ L := fun x hx hl => hL x hl hx
  refine ⟨(k.block b (lt_in h.blk) (hn b (by simp [owned]))).trans h.blk, h.empty, fun mb hm => ⟨?_, (h.map mb hm).2⟩, fun q hq => ⟨?_, (h.rd q hq).2⟩, h.apart, h.hi⟩
  · obtain ⟨es, clock, h1, h2⟩ := (h.map mb hm).1
    exact ⟨es, clock, (k.block mb (lt_in h1) (hn mb (by simp [owned, hm]))).trans h1, h2⟩
  · exact (k.block q.2 (lt_in (h.rd q hq).1) (hn q.2 (by simp only [owned, List.mem_cons, List.mem_append, List.mem_map]; exact Or.inr (Or.inr ⟨q, hq, rfl⟩)))).trans (h.rd q hq).1
theorem Ca.below {w w' : World} {b a p : Nat} {m : Option Nat} {l : List (ByteArray × Nat)} (h : Ca w b a p m l) (k : Below w.heap.size w w') : Ca w' b a p m l := h.kept (L := []) (Kl.ofBelow k) (fun x hx => by cases hx)
theorem Ca.lt {w : World} {b a p : Nat} {m : Option Nat} {l : List (ByteArray × Nat)} (h : Ca w b a p m l) : ∀ x, x ∈ owned b m l → x < w.heap.size ∧ topTab < x := by
  intro x hx
  simp only [owned, List.mem_cons, List.mem_append, List.mem_map, Option.mem_toList] at hx
  rcases hx with rfl | hx | ⟨q, hq, rfl⟩
  · exact ⟨lt_in h.blk, h.hi⟩
  · obtain ⟨⟨es, clock, h1, _⟩, h2⟩ := h.map x hx
    exact ⟨lt_in h1, h2⟩
  · exact ⟨lt_in (h.rd q hq).1, (h.rd q hq).2.1⟩
/-- The cache's own block is neither its map nor a reading. -/
theorem Ca.other {w : World} {b a p : Nat} {m : Option Nat} {l : List (ByteArray × Nat)} (h : Ca w b a p m l) : (∀ mb, m = some mb → mb ≠ b) ∧ ∀ q, q ∈ l → q.2 ≠ b ∧ ∀ mb, m = some mb → q.2 ≠ mb := by
  refine ⟨fun mb hm e => ?_, fun q hq => ⟨fun e => ?_, fun mb hm e => ?_⟩⟩
  · obtain ⟨⟨es, clock, h1, _⟩, _⟩ := h.map mb hm
    rw [e, h.blk] at h1
    cases h1
  · have h1 := (h.rd q hq).1
    rw [e, h.blk] at h1
    simp at h1
  · obtain ⟨⟨es, clock, h1, _⟩, _⟩ := h.map mb hm
    have h2 := (h.rd q hq).1
    rw [e, h1] at h2
    cases h2
/-- Its first cells written anew. -/
theorem Ca.asked {w : World} {b a p : Nat} {m : Option Nat} {l : List (ByteArray × Nat)} (h : Ca w b a p m l) (a' : Nat) : Ca (w.setCell ⟨b, 0, none⟩ (.int .i64 (a' : Nat))) b a' p m l := by
  have ho := h.other
  have hk : ∀ k, k ≠ b → (w.setCell ⟨b, 0, none⟩ (.int .i64 (a' : Nat))).heap[k]? = w.heap[k]? := fun k hk => heap_setCell_other _ _ _ _ hk
  refine ⟨heap_setCell_same _ b 0 _ _ _ h.blk, h.empty, fun mb hm => ⟨?_, (h.map mb hm).2⟩, fun q hq => ⟨(hk q.2 (ho.2 q hq).1).trans (h.rd q hq).1, (h.rd q hq).2⟩, h.apart, h.hi⟩
  obtain ⟨es, clock, h1, h2⟩ := (h.map mb hm).1
  exact ⟨es, clock, (hk mb (ho.1 mb hm)).trans h1, h2⟩
set_option maxRecDepth 100000 in
set_option maxHeartbeats 1600000 in
/-- A text that is known. -/
theorem reading_old (w : World) (b a p : Nat) (mb : Nat) (l : List (ByteArray × Nat)) (s : ByteArray) (rb : Nat) (hs : s.size ≤ 281474976710656) (h : Ca w b a p (some mb) l) (hq : (s, rb) ∈ l) :
    Calls Tryz.prog 86 #[.pointer (some ⟨b, 0, none⟩), .string s] w fun e w' => e = .returned (.pointer (some ⟨rb, 0, none⟩)) ∧ w'.heap[b]? = w.heap[b]? ∧ Kl [b] w w' := by
  have hl : look s l = some rb := look_some h.apart hq
  have k1 : Kl [b] w (w.setCell ⟨b, 2, none⟩ (.int .i32 1)) := (Kl.refl _ _).setCell (by simp) 2 _
  have h1 : (w.setCell ⟨b, 2, none⟩ (.int .i32 1)).heap[b]? = some (.cells (caHeld a p (some mb)) 146) := heap_setCell_same _ b 2 _ _ _ h.blk
  have hm1 : PtrMap (w.setCell ⟨b, 2, none⟩ (.int .i32 1)) mb l := by
    obtain ⟨es, clock, g1, g2⟩ := (h.map mb rfl).1
    exact ⟨es, clock, (heap_setCell_other _ _ _ _ (h.other.1 mb rfl)).trans g1, g2⟩
  have hrun := ptr_look hm1 (fun q hq => (h.rd q hq).2.2) h.apart s hs
  rw [hl] at hrun
  simp only [ptrOf, ptr] at hrun
  have hc2 : w.cell? ⟨b, 2, none⟩ = some (.int .i32 0) := cell_in h.blk 2
  have hz2 := free_in h.blk 2
  have g4 : (w.setCell ⟨b, 2, none⟩ (.int .i32 1)).cell? ⟨b, 4, none⟩ = some (.map (some mb)) := cell_in h1 4
  have g2 : (w.setCell ⟨b, 2, none⟩ (.int .i32 1)).cell? ⟨b, 2, none⟩ = some (.int .i32 1) := cell_in h1 2
  have f2 := free_in h1 2
  have cl := Lib.hid (lock_free ⟨b, 2, none⟩ w hc2 hz2)
  have cu := Lib.hid (fun u => unlock_deferred ⟨b, 2, none⟩ u _ g2 f2)
  have hblk := Lib.hid h.blk
  have hfin := Lib.hid (heap_setCell_same _ b 2 _ _ (.int .i32 0) h1)
  replace k1 := Lib.hid k1
  clear h hm1 hl hq h1 hc2 hz2 g2 f2
  go_enter_defers Tryz.func86, Tryz.ntmps86
  go_wp2_with fail
  refine cl.out.mono ?_
  rintro e w' ⟨rfl, rfl⟩
  go_wp2_with fail
  refine leaves_cons (f := 117) (args := #[.pointer (some ⟨b, 2, none⟩)]) (by simp) (by simp [go_sem]) ?_
  refine (cu.out _).mono ?_
  rintro e u' w'' ⟨rfl, rfl, rfl⟩
  have fin : w.heap[b]? = w.heap[b]? := rfl
  simp only [Leaves, settle, results, Tryz.results86]
  simp
  exact ⟨hfin.out.trans hblk.out.symm, k1.out.setCell (by simp) 2 _⟩
/-- What is said of a text that is new. -/
structure NewSaid (w : World) (b a p mb : Nat) (l : List (ByteArray × Nat)) (s : ByteArray) (e : Ending) (w' : World) : Prop where
  e : e = .returned (.pointer (some ⟨w.heap.size, 0, none⟩))
  blk : w'.heap[b]? = some (.cells (caCells a p (some mb)) 146)
  map : PtrMap w' mb (l ++ [(s, w.heap.size)])
  rd : w'.heap[w.heap.size]? = some (.cells (rdCells 0 0 zero 0) 175)
  kept : Kl [b, mb] w w'
theorem size_set (w : World) (a : Addr) (v : Value) : (w.setCell a v).heap.size = w.heap.size := by simp [World.setCell]
set_option maxRecDepth 100000 in
set_option maxHeartbeats 1600000 in
/-- A text that is new, where there is a map. -/
theorem reading_new (w : World) (b a p : Nat) (mb : Nat) (l : List (ByteArray × Nat)) (s : ByteArray) (hs : s.size ≤ 281474976710656) (h : Ca w b a p (some mb) l) (hn : ∀ q, q ∈ l → q.1 ≠ s) :
    Calls Tryz.prog 86 #[.pointer (some ⟨b, 0, none⟩), .string s] w (NewSaid w b a p mb l s) := by
  have hl : look s l = none := look_none hn
  have hlt := h.lt
  have ho := h.other
  have h1 : (w.setCell ⟨b, 2, none⟩ (.int .i32 1)).heap[b]? = some (.cells (caHeld a p (some mb)) 146) := heap_setCell_same _ b 2 _ _ _ h.blk
  have hm1 : PtrMap (w.setCell ⟨b, 2, none⟩ (.int .i32 1)) mb l := by
    obtain ⟨es, clock, g1, g2⟩ := (h.map mb rfl).1
    exact ⟨es, clock, (heap_setCell_other _ _ _ _ (ho.1 mb rfl)).trans g1, g2⟩
  have hrun := ptr_look hm1 (fun q hq => (h.rd q hq).2.2) h.apart s hs
  rw [hl] at hrun
  simp only [ptrOf] at hrun
  have hc2 : w.cell? ⟨b, 2, none⟩ = some (.int .i32 0) := cell_in h.blk 2
  have hz2 := free_in h.blk 2
  have g4' : (w.setCell ⟨b, 2, none⟩ (.int .i32 1)).cell? ⟨b, 4, none⟩ = some (.map (some mb)) := cell_in h1 4
  have cl := Lib.hid (lock_free ⟨b, 2, none⟩ w hc2 hz2)
  have cc := Lib.hid (fun W => clone_any s W hs)
  have zs := size_set w ⟨b, 2, none⟩ (.int .i32 1)
  have k1 : Kl [b, mb] w (w.setCell ⟨b, 2, none⟩ (.int .i32 1)) := (Kl.refl _ _).setCell (by simp) 2 _
  have kZ' : Kl [b, mb] w ((w.setCell ⟨b, 2, none⟩ (.int .i32 1)).alloc (.cells #[.int .u32 0, .int .i32 0, .int .u32 0, .int .u64 0, .int .u64 0, .int .u64 0, .int .u64 0, .int .u64 0, .bool false, .bool false, .int .i64 0, .int .i64 0] 175)) := k1.trans (Kl.ofBelow ((Below.refl _ _).alloc (Nat.le_refl _) _))
  have hbl := (hlt b (by simp [owned])).1
  have hml := (hlt mb (by simp [owned])).1
  have nbm := Lib.hid (fun e : b = mb => ho.1 mb rfl e.symm)
  have nbr : Hid (w.heap.size ≠ b) := by unfold Hid; omega
  have nrm : Hid (w.heap.size ≠ mb) := by unfold Hid; omega
  have hkeys := Lib.hid (fun q hq => (h.rd q hq).2.2)
  have hn' := Lib.hid hn
  clear h hlt ho hl hn
  have qT : ∀ (w : World) (r : Option Nat), (binOp .eql 144 (.map r) (.map none)).run Tryz.prog w = .ok (.bool r.isNone) w := fun w r => run_eql_map_nil w _ _ _ r mapR
  go_enter_defers Tryz.func86, Tryz.ntmps86
  go_wp2_with fail
  refine cl.out.mono ?_
  rintro e w' ⟨rfl, rfl⟩
  have bZ' : ((w.setCell ⟨b, 2, none⟩ (.int .i32 1)).alloc (.cells #[.int .u32 0, .int .i32 0, .int .u32 0, .int .u64 0, .int .u64 0, .int .u64 0, .int .u64 0, .int .u64 0, .bool false, .bool false, .int .i64 0, .int .i64 0] 175)).heap[b]? = some (.cells (caHeld a p (some mb)) 146) := (((Below.refl _ _).alloc (Nat.le_refl _) _).block b (by rw [zs]; exact hbl)).trans h1
  have mZ' : PtrMap ((w.setCell ⟨b, 2, none⟩ (.int .i32 1)).alloc (.cells #[.int .u32 0, .int .i32 0, .int .u32 0, .int .u64 0, .int .u64 0, .int .u64 0, .int .u64 0, .int .u64 0, .bool false, .bool false, .int .i64 0, .int .i64 0] 175)) mb l := by
    obtain ⟨es, clock, g1, g2⟩ := hm1
    exact ⟨es, clock, (((Below.refl _ _).alloc (Nat.le_refl _) _).block mb (by rw [zs]; exact hml)).trans g1, g2⟩
  have rZ' : ((w.setCell ⟨b, 2, none⟩ (.int .i32 1)).alloc (.cells #[.int .u32 0, .int .i32 0, .int .u32 0, .int .u64 0, .int .u64 0, .int .u64 0, .int .u64 0, .int .u64 0, .bool false, .bool false, .int .i64 0, .int .i64 0] 175)).heap[w.heap.size]? = some (.cells (rdCells 0 0 zero 0) 175) := by
    have := Go.heap_alloc_new (w.setCell ⟨b, 2, none⟩ (.int .i32 1)) (.cells #[.int .u32 0, .int .i32 0, .int .u32 0, .int .u64 0, .int .u64 0, .int .u64 0, .int .u64 0, .int .u64 0, .bool false, .bool false, .int .i64 0, .int .i64 0] 175)
    rw [zs] at this
    exact this
  replace h1 := Lib.hid h1
  replace hm1 := Lib.hid hm1
  replace k1 := Lib.hid k1
  go_wp2_with fail
  try simp only [zs]
  replace zs := Lib.hid zs
  clear hrun hc2 hz2 g4' cl qT
  generalize (w.setCell ⟨b, 2, none⟩ (.int .i32 1)).alloc (.cells #[.int .u32 0, .int .i32 0, .int .u32 0, .int .u64 0, .int .u64 0, .int .u64 0, .int .u64 0, .int .u64 0, .bool false, .bool false, .int .i64 0, .int .i64 0] 175) = Z at *
  have kZ := Lib.hid kZ'
  have hbZ := Lib.hid bZ'
  have hrZ := Lib.hid rZ'
  have g4 : Z.cell? ⟨b, 4, none⟩ = some (.map (some mb)) := cell_in bZ' 4
  have g4d : Z.drew.cell? ⟨b, 4, none⟩ = some (.map (some mb)) := g4
  have zb := Lib.hid (lt_in bZ')
  have zr := Lib.hid (lt_in rZ')
  have Hins : Hid (∀ W, Below Z.heap.size Z W → ∃ w', (Instr.mapUpdate 144 (.map (some mb)) (.string s) (ptr w.heap.size)).run Tryz.prog W = .ok () w' ∧ PtrMap w' mb (l ++ [(s, w.heap.size)]) ∧ (∀ k, k ≠ mb → w'.heap[k]? = W.heap[k]?) ∧ w'.heap.size = W.heap.size ∧ w'.os = W.os ∧ w'.tape = W.tape ∧ w'.output = W.output) := fun W k => by
    obtain ⟨es, clock, g1, g2⟩ := mZ'
    exact ptr_insert ⟨es, clock, (k.block mb (lt_in g1)).trans g1, g2⟩ (fun q hq => hkeys.out q hq) s hs (fun q hq => hn'.out q hq) w.heap.size
  clear kZ' bZ' mZ' rZ'
  go_region_held3 (fun w' => w'.cell? ⟨b, 4, none⟩ = some (.map (some mb))) (first | (with_reducible exact hd6) | (with_reducible exact hc6) | (with_reducible exact g4d) | (with_reducible exact g4) | go_keep)
    (first
      | (go_at_call 29; (with_reducible refine (cc.out _).mono ?_); rintro e w6 ⟨rfl, k6⟩; have kk : Hid (Below Z.heap.size Z w6) := (Below.refl _ _).drew.trans k6; clear k6; have hc6 : w6.cell? ⟨b, 4, none⟩ = some (.map (some mb)) := (kk.out.cell (p := ⟨b, 4, none⟩) zb.out).trans g4; obtain ⟨W7, hrun7, hm7, hk7, hz7, ho7, ht7, hu7⟩ := Hins.out w6 kk.out; simp only [ptr] at hrun7; have hd6 : W7.cell? ⟨b, 4, none⟩ = some (.map (some mb)) := (World.cell?_of_block (w := w6) (hk7 b nbm.out)).trans hc6; replace hm7 := Lib.hid hm7; replace hk7 := Lib.hid hk7; replace hz7 := Lib.hid hz7; replace ho7 := Lib.hid ho7; replace ht7 := Lib.hid ht7; replace hu7 := Lib.hid hu7))
  all_goals
    go_wp2_with fail
    have hb7 : W7.heap[b]? = some (.cells (caHeld a p (some mb)) 146) := (hk7.out b nbm.out).trans ((kk.out.block b zb.out).trans hbZ.out)
    refine leaves_cons (f := 117) (args := #[.pointer (some ⟨b, 2, none⟩)]) (by simp) (by simp [go_sem]) ?_
    refine (unlock_deferred ⟨b, 2, none⟩ _ _ (cell_in hb7 2) (free_in hb7 2)).mono ?_
    rintro e u' w'' ⟨rfl, rfl, rfl⟩
    have kz : Kl [b, mb] Z W7 := ⟨ho7.out.trans kk.out.os, ht7.out.trans kk.out.tape, hu7.out.trans kk.out.output, by rw [hz7.out]; exact kk.out.size, fun k hk hn => (hk7.out k (fun e => hn (by simp [e]))).trans (kk.out.block k hk)⟩
    have fin : NewSaid w b a p mb l s (.returned (.pointer (some ⟨w.heap.size, 0, none⟩))) (W7.setCell ⟨b, 2, none⟩ (.int .i32 0)) := by
      refine ⟨rfl, heap_setCell_same _ b 2 _ _ _ hb7, ?_, ?_, (kZ.out.trans kz).setCell (by simp) 2 _⟩
      · obtain ⟨es, clock, g1, g2⟩ := hm7.out
        exact ⟨es, clock, (heap_setCell_other _ _ _ _ (fun e => nbm.out e.symm)).trans g1, g2⟩
      · exact (heap_setCell_other _ _ _ _ nbr.out).trans ((hk7.out _ nrm.out).trans ((kk.out.block _ zr.out).trans hrZ.out))
    simp only [Leaves, settle, results, Tryz.results86]
    simp
    exact fin
set_option maxRecDepth 100000 in
set_option maxHeartbeats 1600000 in
/-- The first text, where there is no map yet. -/
theorem reading_first (w : World) (b a p : Nat) (s : ByteArray) (hs : s.size ≤ 281474976710656) (h : Ca w b a p none []) :
    Calls Tryz.prog 86 #[.pointer (some ⟨b, 0, none⟩), .string s] w (NewSaid w b a p (w.heap.size + 1) [] s) := by
  have hlt := h.lt
  have h1 : (w.setCell ⟨b, 2, none⟩ (.int .i32 1)).heap[b]? = some (.cells (caHeld a p none) 146) := heap_setCell_same _ b 2 _ _ _ h.blk
  have hrun := ptr_look_nil (w.setCell ⟨b, 2, none⟩ (.int .i32 1)) s hs
  have hc2 : w.cell? ⟨b, 2, none⟩ = some (.int .i32 0) := cell_in h.blk 2
  have hz2 := free_in h.blk 2
  have g4' : (w.setCell ⟨b, 2, none⟩ (.int .i32 1)).cell? ⟨b, 4, none⟩ = some (.map none) := cell_in h1 4
  have cl := Lib.hid (lock_free ⟨b, 2, none⟩ w hc2 hz2)
  have cc := Lib.hid (fun W => clone_any s W hs)
  have zs : (w.setCell ⟨b, 2, none⟩ (.int .i32 1)).heap.size = w.heap.size := size_set w ⟨b, 2, none⟩ (.int .i32 1)
  have zv : ((w.setCell ⟨b, 2, none⟩ (.int .i32 1)).setCell ⟨b, 4, none⟩ (.map (some (w.heap.size + 1)))).heap.size = w.heap.size := (size_set _ _ _).trans zs
  have zy : (((w.setCell ⟨b, 2, none⟩ (.int .i32 1)).setCell ⟨b, 4, none⟩ (.map (some (w.heap.size + 1)))).alloc (.cells #[.int .u32 0, .int .i32 0, .int .u32 0, .int .u64 0, .int .u64 0, .int .u64 0, .int .u64 0, .int .u64 0, .bool false, .bool false, .int .i64 0, .int .i64 0] 175)).heap.size = w.heap.size + 1 := by rw [← zv]; simp
  have hbl := (hlt b (by simp [owned])).1
  have f4 := free_in h1 4
  have hv : ((w.setCell ⟨b, 2, none⟩ (.int .i32 1)).setCell ⟨b, 4, none⟩ (.map (some (w.heap.size + 1)))).heap[b]? = some (.cells (caHeld a p (some (w.heap.size + 1))) 146) := heap_setCell_same _ b 4 _ _ _ h1
  have by1 : (((w.setCell ⟨b, 2, none⟩ (.int .i32 1)).setCell ⟨b, 4, none⟩ (.map (some (w.heap.size + 1)))).alloc (.cells #[.int .u32 0, .int .i32 0, .int .u32 0, .int .u64 0, .int .u64 0, .int .u64 0, .int .u64 0, .int .u64 0, .bool false, .bool false, .int .i64 0, .int .i64 0] 175)).heap[b]? = some (.cells (caHeld a p (some (w.heap.size + 1))) 146) := (((Below.refl _ _).alloc (Nat.le_refl _) _).block b (by rw [zv]; exact hbl)).trans hv
  have bZ' : ((((w.setCell ⟨b, 2, none⟩ (.int .i32 1)).setCell ⟨b, 4, none⟩ (.map (some (w.heap.size + 1)))).alloc (.cells #[.int .u32 0, .int .i32 0, .int .u32 0, .int .u64 0, .int .u64 0, .int .u64 0, .int .u64 0, .int .u64 0, .bool false, .bool false, .int .i64 0, .int .i64 0] 175)).alloc (.map #[] 0)).heap[b]? = some (.cells (caHeld a p (some (w.heap.size + 1))) 146) := (((Below.refl _ _).alloc (Nat.le_refl _) _).block b (by rw [zy]; omega)).trans by1
  have mZ' : PtrMap ((((w.setCell ⟨b, 2, none⟩ (.int .i32 1)).setCell ⟨b, 4, none⟩ (.map (some (w.heap.size + 1)))).alloc (.cells #[.int .u32 0, .int .i32 0, .int .u32 0, .int .u64 0, .int .u64 0, .int .u64 0, .int .u64 0, .int .u64 0, .bool false, .bool false, .int .i64 0, .int .i64 0] 175)).alloc (.map #[] 0)) (w.heap.size + 1) [] := by
    have g := PtrMap.made (((w.setCell ⟨b, 2, none⟩ (.int .i32 1)).setCell ⟨b, 4, none⟩ (.map (some (w.heap.size + 1)))).alloc (.cells #[.int .u32 0, .int .i32 0, .int .u32 0, .int .u64 0, .int .u64 0, .int .u64 0, .int .u64 0, .int .u64 0, .bool false, .bool false, .int .i64 0, .int .i64 0] 175))
    rw [zy] at g
    exact g
  have rZ' : ((((w.setCell ⟨b, 2, none⟩ (.int .i32 1)).setCell ⟨b, 4, none⟩ (.map (some (w.heap.size + 1)))).alloc (.cells #[.int .u32 0, .int .i32 0, .int .u32 0, .int .u64 0, .int .u64 0, .int .u64 0, .int .u64 0, .int .u64 0, .bool false, .bool false, .int .i64 0, .int .i64 0] 175)).alloc (.map #[] 0)).heap[w.heap.size]? = some (.cells (rdCells 0 0 zero 0) 175) := by
    have g := Go.heap_alloc_new ((w.setCell ⟨b, 2, none⟩ (.int .i32 1)).setCell ⟨b, 4, none⟩ (.map (some (w.heap.size + 1)))) (.cells #[.int .u32 0, .int .i32 0, .int .u32 0, .int .u64 0, .int .u64 0, .int .u64 0, .int .u64 0, .int .u64 0, .bool false, .bool false, .int .i64 0, .int .i64 0] 175)
    rw [zv] at g
    exact (((Below.refl _ _).alloc (Nat.le_refl _) _).block w.heap.size (by rw [zy]; omega)).trans g
  have k1 : Kl [b, w.heap.size + 1] w ((w.setCell ⟨b, 2, none⟩ (.int .i32 1)).setCell ⟨b, 4, none⟩ (.map (some (w.heap.size + 1)))) := ((Kl.refl _ _).setCell (by simp) 2 _).setCell (by simp) 4 _
  have kZ' : Kl [b, w.heap.size + 1] w ((((w.setCell ⟨b, 2, none⟩ (.int .i32 1)).setCell ⟨b, 4, none⟩ (.map (some (w.heap.size + 1)))).alloc (.cells #[.int .u32 0, .int .i32 0, .int .u32 0, .int .u64 0, .int .u64 0, .int .u64 0, .int .u64 0, .int .u64 0, .bool false, .bool false, .int .i64 0, .int .i64 0] 175)).alloc (.map #[] 0)) := (k1.trans (Kl.ofBelow ((Below.refl _ _).alloc (Nat.le_refl _) _))).trans (Kl.ofBelow ((Below.refl _ _).alloc (Nat.le_refl _) _))
  have nbm : Hid (b ≠ w.heap.size + 1) := by unfold Hid; omega
  have nbr : Hid (w.heap.size ≠ b) := by unfold Hid; omega
  have nrm : Hid (w.heap.size ≠ w.heap.size + 1) := by unfold Hid; omega
  clear h hlt k1 by1 hv
  have mk := makeR_run
  have qT : ∀ (w : World) (r : Option Nat), (binOp .eql 144 (.map r) (.map none)).run Tryz.prog w = .ok (.bool r.isNone) w := fun w r => run_eql_map_nil w _ _ _ r mapR
  replace h1 := Lib.hid h1
  replace bZ' := Lib.hid bZ'
  replace rZ' := Lib.hid rZ'
  replace mZ' := Lib.hid mZ'
  go_enter_defers Tryz.func86, Tryz.ntmps86
  go_wp2_with fail
  refine cl.out.mono ?_
  rintro e w' ⟨rfl, rfl⟩
  go_wp2_with fail
  try simp only [zs, zy]
  replace zs := Lib.hid zs
  replace zy := Lib.hid zy
  replace zv := Lib.hid zv
  clear hrun hc2 hz2 g4' cl qT mk f4
  generalize (((w.setCell ⟨b, 2, none⟩ (.int .i32 1)).setCell ⟨b, 4, none⟩ (.map (some (w.heap.size + 1)))).alloc (.cells #[.int .u32 0, .int .i32 0, .int .u32 0, .int .u64 0, .int .u64 0, .int .u64 0, .int .u64 0, .int .u64 0, .bool false, .bool false, .int .i64 0, .int .i64 0] 175)).alloc (.map #[] 0) = Z at *
  have kZ := Lib.hid kZ'
  have hbZ := bZ'
  have hrZ := rZ'
  have g4 : Z.cell? ⟨b, 4, none⟩ = some (.map (some (w.heap.size + 1))) := cell_in bZ'.out 4
  have g4d : Z.drew.cell? ⟨b, 4, none⟩ = some (.map (some (w.heap.size + 1))) := g4
  have zb := Lib.hid (lt_in bZ'.out)
  have zr := Lib.hid (lt_in rZ'.out)
  have Hins : Hid (∀ W, Below Z.heap.size Z W → ∃ w', (Instr.mapUpdate 144 (.map (some (w.heap.size + 1))) (.string s) (ptr w.heap.size)).run Tryz.prog W = .ok () w' ∧ PtrMap w' (w.heap.size + 1) ([] ++ [(s, w.heap.size)]) ∧ (∀ k, k ≠ w.heap.size + 1 → w'.heap[k]? = W.heap[k]?) ∧ w'.heap.size = W.heap.size ∧ w'.os = W.os ∧ w'.tape = W.tape ∧ w'.output = W.output) := fun W k => by
    obtain ⟨es, clock, g1, g2⟩ := mZ'.out
    exact ptr_insert ⟨es, clock, (k.block _ (lt_in g1)).trans g1, g2⟩ (fun q hq => by cases hq) s hs (fun q hq => by cases hq) w.heap.size
  clear kZ' bZ' mZ' rZ'
  go_region_held3 (fun w' => w'.cell? ⟨b, 4, none⟩ = some (.map (some (w.heap.size + 1)))) (first | (with_reducible exact hd6) | (with_reducible exact hc6) | (with_reducible exact g4d) | (with_reducible exact g4) | go_keep)
    (first
      | (go_at_call 29; (with_reducible refine (cc.out _).mono ?_); rintro e w6 ⟨rfl, k6⟩; have kk : Hid (Below Z.heap.size Z w6) := (Below.refl _ _).drew.trans k6; clear k6; have hc6 : w6.cell? ⟨b, 4, none⟩ = some (.map (some (w.heap.size + 1))) := (kk.out.cell (p := ⟨b, 4, none⟩) zb.out).trans g4; obtain ⟨W7, hrun7, hm7, hk7, hz7, ho7, ht7, hu7⟩ := Hins.out w6 kk.out; simp only [ptr] at hrun7; have hd6 : W7.cell? ⟨b, 4, none⟩ = some (.map (some (w.heap.size + 1))) := (World.cell?_of_block (w := w6) (hk7 b nbm.out)).trans hc6; replace hm7 := Lib.hid hm7; replace hk7 := Lib.hid hk7; replace hz7 := Lib.hid hz7; replace ho7 := Lib.hid ho7; replace ht7 := Lib.hid ht7; replace hu7 := Lib.hid hu7))
  all_goals
    go_wp2_with fail
    have hb7 : W7.heap[b]? = some (.cells (caHeld a p (some (w.heap.size + 1))) 146) := (hk7.out b nbm.out).trans ((kk.out.block b zb.out).trans hbZ.out)
    refine leaves_cons (f := 117) (args := #[.pointer (some ⟨b, 2, none⟩)]) (by simp) (by simp [go_sem]) ?_
    refine (unlock_deferred ⟨b, 2, none⟩ _ _ (cell_in hb7 2) (free_in hb7 2)).mono ?_
    rintro e u' w'' ⟨rfl, rfl, rfl⟩
    have kz : Kl [b, w.heap.size + 1] Z W7 := ⟨ho7.out.trans kk.out.os, ht7.out.trans kk.out.tape, hu7.out.trans kk.out.output, by rw [hz7.out]; exact kk.out.size, fun k hk hn => (hk7.out k (fun e => hn (by simp [e]))).trans (kk.out.block k hk)⟩
    have fin : NewSaid w b a p (w.heap.size + 1) [] s (.returned (.pointer (some ⟨w.heap.size, 0, none⟩))) (W7.setCell ⟨b, 2, none⟩ (.int .i32 0)) := by
      refine ⟨rfl, heap_setCell_same _ b 2 _ _ _ hb7, ?_, ?_, (kZ.out.trans kz).setCell (by simp) 2 _⟩
      · obtain ⟨es, clock, g1, g2⟩ := hm7.out
        exact ⟨es, clock, (heap_setCell_other _ _ _ _ (fun e => nbm.out e.symm)).trans g1, g2⟩
      · exact (heap_setCell_other _ _ _ _ nbr.out).trans ((hk7.out _ nrm.out).trans ((kk.out.block _ zr.out).trans hrZ.out))
    simp only [Leaves, settle, results, Tryz.results86]
    simp
    exact fin
end Go.Proofs.YtoihekgmomjhpaaGreatDoor
namespace Go.Proofs.YtoihekgmomjhpaaGreatDoor
open Go.RowKit Crn Nxt
theorem right_fits {x : SpecN} (h : right x = true) : Fits x := by
  obtain ⟨h0, h1, h2, h3, h4, h5⟩ := right_parts h
  have key : ∀ f set, f < 5 → okSet f set = true → set < 18446744073709551616 := fun f set hf ho => by
    have h2 := (okSet_iff.1 ho).2
    have h3 := every_lt f hf
    unfold Crn.Sub at h2
    have h4 : set ≤ every f 1 := by rw [← h2]; exact Nat.and_le_right
    have h5 : (2 : Nat) ^ 64 = 18446744073709551616 := by decide
    omega
  exact ⟨key 0 _ (by omega) h0, key 1 _ (by omega) h1, key 2 _ (by omega) h2, key 3 _ (by omega) h3, key 4 _ (by omega) h4, by omega, by omega⟩
/-- What a cache answers. -/
noncomputable def atC (s : ByteArray) (after : Int) : Int := match parse s.data.toList with
  | some x => (nextN x after).getD 0
  | none => 0
noncomputable def erC (s : ByteArray) (after : Int) : Int := match parse s.data.toList with
  | some x => if (nextN x after).isSome then 0 else 10
  | none => 7
noncomputable def answerC (s : ByteArray) (after : Int) : Ending := .returned (.tuple #[.int .i64 (atC s after), .int .i64 (erC s after)])
theorem answerC_none {s : ByteArray} (h : parse s.data.toList = none) (after : Int) : answerC s after = .returned (.tuple #[.int .i64 0, .int .i64 7]) := by
  unfold answerC atC erC
  rw [h]
theorem answerC_some {s : ByteArray} {x : SpecN} (h : parse s.data.toList = some x) (after : Int) : answerC s after = .returned (.tuple #[.int .i64 ((nextN x after).getD 0), .int .i64 (if (nextN x after).isSome then 0 else 10)]) := by
  unfold answerC atC erC
  rw [h]
theorem Ca.same {w w' : World} {b a p : Nat} {m : Option Nat} {l : List (ByteArray × Nat)} (h : Ca w b a p m l) (e : w'.heap[b]? = w.heap[b]?) (k : Kl [b] w w') : Ca w' b a p m l := by
  have ho := h.other
  refine ⟨e.trans h.blk, h.empty, fun mb hm => ⟨?_, (h.map mb hm).2⟩, fun q hq => ⟨(k.block q.2 (lt_in (h.rd q hq).1) (by simpa using (ho.2 q hq).1)).trans (h.rd q hq).1, (h.rd q hq).2⟩, h.apart, h.hi⟩
  obtain ⟨es, clock, h1, h2⟩ := (h.map mb hm).1
  exact ⟨es, clock, (k.block mb (lt_in h1) (by simpa using ho.1 mb hm)).trans h1, h2⟩
/-- One text more. -/
theorem Ca.more {w w2 w3 w4 : World} {b a p : Nat} {m : Option Nat} {mb : Nat} {l : List (ByteArray × Nat)} {s : ByteArray} {e : Ending} (h : Ca w b a p m l) (hs : s.size ≤ 281474976710656) (hn : ∀ q, q ∈ l → q.1 ≠ s) (hmb : m = some mb ∨ w.heap.size < mb) (n : NewSaid w b a p mb l s e w2)
    (k3 : Below w2.heap.size w2 w3) (h4 : w4.heap[w.heap.size]? = some (.cells (rdCells 1 0 (spOf s) (erOf s)) 175)) (b4 : w4.heap[b]? = some (.cells (caCells a (p + 1) (some mb)) 146)) (k4 : Kl [w.heap.size, b] w3 w4) : Ca w4 b a (p + 1) (some mb) (l ++ [(s, w.heap.size)]) := by
  have ho := h.other
  have hlt := h.lt
  have hbl := (hlt b (by simp [owned])).1
  have htop : topTab < w.heap.size := Nat.lt_of_lt_of_le (hlt b (by simp [owned])).2 (Nat.le_of_lt hbl)
  have nmb : mb ≠ b := by
    intro e
    obtain ⟨es, clock, g1, _⟩ := n.map
    rw [e, n.blk] at g1
    cases g1
  have nmr : mb ≠ w.heap.size := by
    rcases hmb with g | g
    · have := (hlt mb (by simp [owned, g])).1
      omega
    · omega
  refine ⟨b4, fun e => by simp at e, fun mb' hm => ?_, fun q hq => ?_, ?_, h.hi⟩
  · obtain rfl : mb = mb' := by simpa using hm
    obtain ⟨es, clock, g1, g2⟩ := n.map
    refine ⟨⟨es, clock, (k4.block mb (Nat.lt_of_lt_of_le (lt_in g1) k3.size) (by simp [nmr, nmb])).trans ((k3.block mb (lt_in g1)).trans g1), g2⟩, ?_⟩
    rcases hmb with g | g
    · exact (h.map mb g).2
    · omega
  · rcases List.mem_append.1 hq with g | g
    · have g1 := (h.rd q g).1
      have hql := lt_in g1
      have nq : q.2 ∉ [b, mb] := by
        simp only [List.mem_cons, List.not_mem_nil, or_false, not_or]
        refine ⟨(ho.2 q g).1, ?_⟩
        rcases hmb with g' | g'
        · exact (ho.2 q g).2 mb g'
        · omega
      have g2 := (n.kept.block q.2 hql nq).trans g1
      exact ⟨(k4.block q.2 (Nat.lt_of_lt_of_le (lt_in g2) k3.size) (by simp only [List.mem_cons, List.not_mem_nil, or_false, not_or]; exact ⟨by omega, (ho.2 q g).1⟩)).trans ((k3.block q.2 (lt_in g2)).trans g2), (h.rd q g).2⟩
    · simp only [List.mem_singleton] at g
      subst g
      exact ⟨h4, htop, hs⟩
  · rw [List.pairwise_append]
    exact ⟨h.apart, by simp, fun q hq r hr => by simp only [List.mem_singleton] at hr; subst hr; exact hn q hq⟩
/-- What is said of a cache behind a call. -/
structure Behind (w : World) (b a : Nat) (m : Option Nat) (l : List (ByteArray × Nat)) (s : ByteArray) (w' : World) (m' : Option Nat) (l' : List (ByteArray × Nat)) : Prop where
  ca : Ca w' b (a + 1) l'.length m' l'
  old : s ∈ l.map (·.1) → l'.map (·.1) = l.map (·.1)
  new : s ∉ l.map (·.1) → l'.map (·.1) = l.map (·.1) ++ [s]
  own : ∀ x, x ∈ owned b m' l' → x ∈ owned b m l ∨ w.heap.size ≤ x
  kept : Kl (owned b m l) w w'
theorem rd_cells {w : World} {rb : Nat} {x : SpecN} {er : Int} (h : w.heap[rb]? = some (.cells (rdCells 1 0 x er) 175)) : w.cell? ⟨rb, 11, none⟩ = some (.int .i64 er) ∧ w.cell? ⟨rb, 3, none⟩ = some (.int .u64 x.min) ∧ w.cell? ⟨rb, 4, none⟩ = some (.int .u64 x.hour) ∧ w.cell? ⟨rb, 5, none⟩ = some (.int .u64 x.dom) ∧ w.cell? ⟨rb, 6, none⟩ = some (.int .u64 x.mon) ∧ w.cell? ⟨rb, 7, none⟩ = some (.int .u64 x.dow) ∧ w.cell? ⟨rb, 8, none⟩ = some (.bool x.anyDom) ∧ w.cell? ⟨rb, 9, none⟩ = some (.bool x.anyDow) ∧ w.cell? ⟨rb, 10, none⟩ = some (.int .i64 x.ahead) :=
  ⟨cell_in h 11, cell_in h 3, cell_in h 4, cell_in h 5, cell_in h 6, cell_in h 7, cell_in h 8, cell_in h 9, cell_in h 10⟩
theorem Behind.below {w w1 w2 : World} {b a : Nat} {m m' : Option Nat} {l l' : List (ByteArray × Nat)} {s : ByteArray} (h : Behind w b a m l s w1 m' l') (k : Below w1.heap.size w1 w2) : Behind w b a m l s w2 m' l' :=
  ⟨h.ca.below k, h.old, h.new, h.own, h.kept.trans (Kl.ofBelow k)⟩
theorem Behind.drewN {w w1 : World} {b a : Nat} {m m' : Option Nat} {l l' : List (ByteArray × Nat)} {s : ByteArray} (h : Behind w b a m l s w1 m' l') (n : Nat) : Behind w b a m l s (w1.drewN n) m' l' := h.below (below_drewN (Below.refl _ _) n)
set_option maxRecDepth 100000 in
set_option maxHeartbeats 2000000 in
theorem next_old (w : World) (b a : Nat) (m : Option Nat) (l : List (ByteArray × Nat)) (s : ByteArray) (after : Int) (tb : Tab w) (nt : NTab w) (hs : s.size ≤ 281474976710656) (ha : a ≤ 1000000) (hp : l.length ≤ 1000000) (s1 : -9223372036854775808 ≤ after) (s2 : after ≤ 9223372036854775807) (h : Ca w b a l.length m l) (mb : Nat) (hm : m = some mb) (rb : Nat) (hq : (s, rb) ∈ l) :
    Calls Tryz.prog 68 #[.pointer (some ⟨b, 0, none⟩), .string s, .int .i64 after] w fun e w' => e = answerC s after ∧ ∃ m' l', Behind w b a m l s w' m' l' := by
  have hlt := h.lt
  have hbl := (hlt b (by simp [owned])).1
  have Cn : Hid (∀ x W, parse s.data.toList = some x → Tab W → NTab W → Calls Tryz.prog 90 #[specV x, .int .i64 after] W fun e w' => e = answerX (nextN x after) ∧ Below W.heap.size W w') := fun x W hx h1 h2 => cNext_any x (right_fits (parse_right hx)) after s1 s2 W h1 h2
  have k0 : Below w.heap.size w ((w.alloc (.cells #[.pointer (some ⟨b, 0, none⟩)] 104)).alloc (.cells #[.string s] 9)) := ((Below.refl _ _).alloc (Nat.le_refl _) _).alloc (by simp) _
  have h0 := h.below k0
  have z0 : ((w.alloc (.cells #[.pointer (some ⟨b, 0, none⟩)] 104)).alloc (.cells #[.string s] 9)).heap.size = w.heap.size + 2 := by simp
  have u0 : ((w.alloc (.cells #[.pointer (some ⟨b, 0, none⟩)] 104)).alloc (.cells #[.string s] 9)).cell? ⟨w.heap.size, 0, none⟩ = some (.pointer (some ⟨b, 0, none⟩)) := by
    have := heap_alloc2_old w (.cells #[.pointer (some ⟨b, 0, none⟩)] 104) (.cells #[.string s] 9)
    exact cell_in this 0
  have v0 : ((w.alloc (.cells #[.pointer (some ⟨b, 0, none⟩)] 104)).alloc (.cells #[.string s] 9)).cell? ⟨w.heap.size + 1, 0, none⟩ = some (.string s) := by
    have := Go.heap_alloc2_new w (.cells #[.pointer (some ⟨b, 0, none⟩)] 104) (.cells #[.string s] 9)
    exact cell_in this 0
  have cadd := Lib.hid (int64Add ⟨b, 0, none⟩ a _ ha (cell_in h0.blk 0) (free_in h0.blk 0))
  go_enter Tryz.func68, Tryz.ntmps68
  go_wp2_with fail
  refine cadd.out.mono ?_
  rintro e w' ⟨rfl, rfl⟩
  have h1 := h0.asked (a + 1)
  have k1 : Kl [b] w _ := (Kl.ofBelow k0).setCell (b := b) (by simp) 0 (.int .i64 ((a + 1 : Nat) : Int))
  have z1 := (size_set ((w.alloc (.cells #[.pointer (some ⟨b, 0, none⟩)] 104)).alloc (.cells #[.string s] 9)) ⟨b, 0, none⟩ (.int .i64 ((a + 1 : Nat) : Int))).trans z0
  have u1 := (World.cell?_setCell_other ((w.alloc (.cells #[.pointer (some ⟨b, 0, none⟩)] 104)).alloc (.cells #[.string s] 9)) ⟨b, 0, none⟩ ⟨w.heap.size, 0, none⟩ (.int .i64 ((a + 1 : Nat) : Int)) (fun e => by have := congrArg Addr.block e; simp at this; omega)).trans u0
  have v1 := (World.cell?_setCell_other ((w.alloc (.cells #[.pointer (some ⟨b, 0, none⟩)] 104)).alloc (.cells #[.string s] 9)) ⟨b, 0, none⟩ ⟨w.heap.size + 1, 0, none⟩ (.int .i64 ((a + 1 : Nat) : Int)) (fun e => by have := congrArg Addr.block e; simp at this; omega)).trans v0
  clear cadd u0 v0 z0 h0
  generalize ((w.alloc (.cells #[.pointer (some ⟨b, 0, none⟩)] 104)).alloc (.cells #[.string s] 9)).setCell ⟨b, 0, none⟩ (.int .i64 ((a + 1 : Nat) : Int)) = X1 at *
  have htop : topTab < b := h.hi
  have tb1 := tb.kl k1 (by simpa using htop)
  have nt1 := nt.kl k1 (by simpa using htop)
  subst hm
  have cr := Lib.hid (reading_old X1 b (a + 1) l.length mb l s rb hs h1 hq)
  have hrdt := (h.rd (s, rb) hq)
  have hrbl := (hlt rb (by simp only [owned, List.mem_cons, List.mem_append, List.mem_map]; exact Or.inr (Or.inr ⟨(s, rb), hq, rfl⟩))).1
  go_wp2_with fail
  refine cr.out.mono ?_
  rintro e X2 ⟨rfl, hb2, k2⟩
  have h2 := h1.same hb2 k2
  have u2 := k2.cell (k := w.heap.size) (by simp; omega) u1
  have v2 := k2.cell (k := w.heap.size + 1) (by simp; omega) v1
  have kk2 := k1.trans k2
  have tb2 := tb1.kl k2 (by simpa using htop)
  have nt2 := nt1.kl k2 (by simpa using htop)
  have k3 : Below X2.heap.size X2 (X2.alloc (.cells #[.pointer (some ⟨rb, 0, none⟩)] 168)) := (Below.refl _ _).alloc (Nat.le_refl _) _
  have h3 := h2.below k3
  have r4 : (X2.alloc (.cells #[.pointer (some ⟨rb, 0, none⟩)] 168)).cell? ⟨X2.heap.size, 0, none⟩ = some (.pointer (some ⟨rb, 0, none⟩)) := by rw [World.cell?_alloc_new]; rfl
  have h4 : Hid ((X2.alloc (.cells #[.pointer (some ⟨rb, 0, none⟩)] 168)).heap[rb]? = some (.cells (rdCells 1 0 (spOf s) (erOf s)) 175)) := (h3.rd (s, rb) hq).1
  have tb4 := Lib.hid (tb2.below k3)
  have nt4 := Lib.hid (nt2.below k3)
  have kk3 := kk2.trans (Kl.ofBelow k3)
  have bh : Hid (Behind w b a (some mb) l s (X2.alloc (.cells #[.pointer (some ⟨rb, 0, none⟩)] 168)) (some mb) l) := ⟨h3, fun _ => rfl, fun hn => absurd (List.mem_map.2 ⟨(s, rb), hq, rfl⟩) hn, fun x hx => Or.inl hx, kk3.mono (fun k hk => Or.inl (by simp at hk; simp [hk, owned]))⟩
  have cd := Lib.hid (fun fv => do_done rb fv (spOf s) (erOf s) _ h4.out)
  clear h h1 h2 h3 hb2 k2 kk2 kk3 tb1 nt1 tb2 nt2 u1 v1 u2 v2 cr k0 k1 k3 hlt tb nt hrdt
  go_wp2_with fail
  generalize X2.alloc (.cells #[.pointer (some ⟨rb, 0, none⟩)] 168) = X4 at *
  refine (cd.out _).mono ?_
  rintro e w' ⟨rfl, rfl⟩
  clear cd
  obtain ⟨q11, q3, q4, q5, q6, q7, q8, q9, q10⟩ := rd_cells h4.out
  have r4d : X4.drew.cell? ⟨X2.heap.size, 0, none⟩ = some (.pointer (some ⟨rb, 0, none⟩)) := r4
  cases hx : parse s.data.toList with
  | none =>
    have fin := Lib.hid (answerC_none hx after)
    have e1 : erOf s = 7 := by unfold erOf; rw [hx]; rfl
    rw [e1] at q11
    have q11d : X4.drew.cell? ⟨rb, 11, none⟩ = some (.int .i64 7) := q11
    clear hx e1 Cn
    go_wp2_with fail
    go_quiet (fail)
    go_wp2_with fail
    go_ret2
    exact ⟨by rw [fin.out]; rfl, _, _, bh.out.drewN nq⟩
  | some x =>
    have fin := Lib.hid (answerC_some hx after)
    have e1 : erOf s = 0 := by unfold erOf; rw [hx]; rfl
    have e2 : spOf s = x := by unfold spOf; rw [hx]; rfl
    rw [e1] at q11
    rw [e2] at q3 q4 q5 q6 q7 q8 q9 q10
    have cn := Lib.hid (Cn.out x X4 hx tb4.out nt4.out)
    generalize nextN x after = R at *
    clear hx e1 e2 Cn h4
    obtain ⟨x0, x1, x2, x3, x4, x5, x6, x7⟩ := x
    simp only [specV, cellsN] at *
    go_wp2_with fail
    refine cn.out.mono ?_
    rintro e w9 ⟨rfl, k9⟩
    have bh9 := Lib.hid (bh.out.below k9)
    clear k9 cn
    cases R with
    | none =>
      rw [answerX_none]
      go_wp2_with fail
      go_ret2
      exact ⟨by rw [fin.out]; rfl, _, _, bh9.out⟩
    | some n =>
      rw [answerX_some]
      go_wp2_with fail
      go_ret2
      exact ⟨by rw [fin.out]; rfl, _, _, bh9.out⟩
set_option maxRecDepth 100000 in
set_option maxHeartbeats 2000000 in
theorem next_new (w : World) (b a : Nat) (m : Option Nat) (l : List (ByteArray × Nat)) (s : ByteArray) (after : Int) (tb : Tab w) (nt : NTab w) (hs : s.size ≤ 281474976710656) (ha : a ≤ 1000000) (hp : l.length ≤ 1000000) (s1 : -9223372036854775808 ≤ after) (s2 : after ≤ 9223372036854775807) (h : Ca w b a l.length m l) (hn : s ∉ l.map (·.1)) :
    Calls Tryz.prog 68 #[.pointer (some ⟨b, 0, none⟩), .string s, .int .i64 after] w fun e w' => e = answerC s after ∧ ∃ m' l', Behind w b a m l s w' m' l' := by
  have hlt := h.lt
  have hbl := (hlt b (by simp [owned])).1
  have Cn : Hid (∀ x W, parse s.data.toList = some x → Tab W → NTab W → Calls Tryz.prog 90 #[specV x, .int .i64 after] W fun e w' => e = answerX (nextN x after) ∧ Below W.heap.size W w') := fun x W hx h1 h2 => cNext_any x (right_fits (parse_right hx)) after s1 s2 W h1 h2
  have k0 : Below w.heap.size w ((w.alloc (.cells #[.pointer (some ⟨b, 0, none⟩)] 104)).alloc (.cells #[.string s] 9)) := ((Below.refl _ _).alloc (Nat.le_refl _) _).alloc (by simp) _
  have h0 := h.below k0
  have z0 : ((w.alloc (.cells #[.pointer (some ⟨b, 0, none⟩)] 104)).alloc (.cells #[.string s] 9)).heap.size = w.heap.size + 2 := by simp
  have u0 : ((w.alloc (.cells #[.pointer (some ⟨b, 0, none⟩)] 104)).alloc (.cells #[.string s] 9)).cell? ⟨w.heap.size, 0, none⟩ = some (.pointer (some ⟨b, 0, none⟩)) := by
    have := heap_alloc2_old w (.cells #[.pointer (some ⟨b, 0, none⟩)] 104) (.cells #[.string s] 9)
    exact cell_in this 0
  have v0 : ((w.alloc (.cells #[.pointer (some ⟨b, 0, none⟩)] 104)).alloc (.cells #[.string s] 9)).cell? ⟨w.heap.size + 1, 0, none⟩ = some (.string s) := by
    have := Go.heap_alloc2_new w (.cells #[.pointer (some ⟨b, 0, none⟩)] 104) (.cells #[.string s] 9)
    exact cell_in this 0
  have cadd := Lib.hid (int64Add ⟨b, 0, none⟩ a _ ha (cell_in h0.blk 0) (free_in h0.blk 0))
  go_enter Tryz.func68, Tryz.ntmps68
  go_wp2_with fail
  refine cadd.out.mono ?_
  rintro e w' ⟨rfl, rfl⟩
  have h1 := h0.asked (a + 1)
  have k1 : Kl [b] w _ := (Kl.ofBelow k0).setCell (b := b) (by simp) 0 (.int .i64 ((a + 1 : Nat) : Int))
  have z1 := (size_set ((w.alloc (.cells #[.pointer (some ⟨b, 0, none⟩)] 104)).alloc (.cells #[.string s] 9)) ⟨b, 0, none⟩ (.int .i64 ((a + 1 : Nat) : Int))).trans z0
  have u1 := (World.cell?_setCell_other ((w.alloc (.cells #[.pointer (some ⟨b, 0, none⟩)] 104)).alloc (.cells #[.string s] 9)) ⟨b, 0, none⟩ ⟨w.heap.size, 0, none⟩ (.int .i64 ((a + 1 : Nat) : Int)) (fun e => by have := congrArg Addr.block e; simp at this; omega)).trans u0
  have v1 := (World.cell?_setCell_other ((w.alloc (.cells #[.pointer (some ⟨b, 0, none⟩)] 104)).alloc (.cells #[.string s] 9)) ⟨b, 0, none⟩ ⟨w.heap.size + 1, 0, none⟩ (.int .i64 ((a + 1 : Nat) : Int)) (fun e => by have := congrArg Addr.block e; simp at this; omega)).trans v0
  clear cadd u0 v0 z0 h0
  generalize ((w.alloc (.cells #[.pointer (some ⟨b, 0, none⟩)] 104)).alloc (.cells #[.string s] 9)).setCell ⟨b, 0, none⟩ (.int .i64 ((a + 1 : Nat) : Int)) = X1 at *
  have htop : topTab < b := h.hi
  have tb1 := tb.kl k1 (by simpa using htop)
  have nt1 := nt.kl k1 (by simpa using htop)
  have hne : ∀ q, q ∈ l → q.1 ≠ s := fun q hq e => hn (List.mem_map.2 ⟨q, hq, e⟩)
  obtain ⟨mb, hmb, cr⟩ : ∃ mb, (m = some mb ∨ X1.heap.size < mb) ∧ Hid (Calls Tryz.prog 86 #[.pointer (some ⟨b, 0, none⟩), .string s] X1 (NewSaid X1 b (a + 1) l.length mb l s)) := by
    cases m with
    | none =>
      have hl := h1.empty rfl
      subst hl
      exact ⟨X1.heap.size + 1, Or.inr (by omega), reading_first X1 b (a + 1) _ s hs h1⟩
    | some mb => exact ⟨mb, Or.inl rfl, reading_new X1 b (a + 1) _ mb l s hs h1 hne⟩
  have hmw : mb < w.heap.size ∨ w.heap.size + 2 < mb := by
    rcases hmb with g | g
    · exact Or.inl (hlt mb (by simp [owned, g])).1
    · right; omega
  have htw : topTab < w.heap.size := by omega
  have htm : topTab < mb := by
    rcases hmb with g | g
    · exact (hlt mb (by simp [owned, g])).2
    · omega
  obtain ⟨rb, hrbe⟩ : ∃ rb, X1.heap.size = rb := ⟨_, rfl⟩
  have hrb2 : rb = w.heap.size + 2 := by omega
  replace hmb := Lib.hid hmb
  replace hne := Lib.hid hne
  replace h := Lib.hid h
  replace h1 := Lib.hid h1
  replace k1 := Lib.hid k1
  replace k0 := Lib.hid k0
  replace tb := Lib.hid tb
  replace nt := Lib.hid nt
  replace tb1 := Lib.hid tb1
  replace nt1 := Lib.hid nt1
  replace hlt := Lib.hid hlt
  replace hn := Lib.hid hn
  replace z1 := Lib.hid z1
  replace hmw := Lib.hid hmw
  replace hrbe := Lib.hid hrbe
  replace hrb2 := Lib.hid hrb2
  go_wp2_with fail
  refine cr.out.mono ?_
  rintro e X2 n
  obtain rfl := n.e
  have nb2 := n.blk
  have nrd := n.rd
  have nkept := n.kept
  rw [hrbe.out] at nrd
  rw [hrbe.out]
  have hrl : rb < X2.heap.size := lt_in nrd
  have u2 := nkept.cell (k := w.heap.size) (by simp; have := hmw.out; omega) u1
  have v2 := nkept.cell (k := w.heap.size + 1) (by simp; have := hmw.out; omega) v1
  have k3 : Below X2.heap.size X2 (X2.alloc (.cells #[.pointer (some ⟨rb, 0, none⟩)] 168)) := (Below.refl _ _).alloc (Nat.le_refl _) _
  have r3 : (X2.alloc (.cells #[.pointer (some ⟨rb, 0, none⟩)] 168)).cell? ⟨X2.heap.size, 0, none⟩ = some (.pointer (some ⟨rb, 0, none⟩)) := by rw [World.cell?_alloc_new]; rfl
  have tb3 := (tb1.out.kl nkept (by simp; exact ⟨htop, htm⟩)).below k3
  have nt3 := (nt1.out.kl nkept (by simp; exact ⟨htop, htm⟩)).below k3
  have rd3 := (k3.block rb hrl).trans nrd
  have b3 := (k3.block b (lt_in nb2)).trans nb2
  have u3 := (k3.cell (p := ⟨w.heap.size, 0, none⟩) (World.block_lt_of_cell? _ _ u2)).trans u2
  have v3 := (k3.cell (p := ⟨w.heap.size + 1, 0, none⟩) (World.block_lt_of_cell? _ _ v2)).trans v2
  have kn : Kl [b, mb, rb] w (X2.alloc (.cells #[.pointer (some ⟨rb, 0, none⟩)] 168)) := ((k1.out.mono (fun k hk => Or.inl (by simp at hk; simp [hk]))).trans (nkept.mono (fun k hk => Or.inl (by simp at hk; rcases hk with g | g <;> simp [g])))).trans (Kl.ofBelow k3)
  have cd := Lib.hid (do_first (w.heap.size + 1) X2.heap.size w.heap.size rb b s (a + 1) l.length (some mb) _ tb3 hs hp v3 r3 u3 (by have := hrb2.out; omega) (by omega) (by have := hrb2.out; omega) (by have := hrb2.out; omega) (by have := hrb2.out; omega) rd3 b3)
  replace n := Lib.hid n
  replace k3 := Lib.hid k3
  replace kn := Lib.hid kn
  replace tb3 := Lib.hid tb3
  replace nt3 := Lib.hid nt3
  clear nb2 nrd nkept u2 v2 rd3 b3 u3 v3 u1 v1 cr
  go_wp2_with fail
  obtain ⟨r0, hr0⟩ : ∃ r0, X2.heap.size = r0 := ⟨_, rfl⟩
  rw [hr0] at r3 cd ⊢
  replace hr0 := Lib.hid hr0
  generalize X2.alloc (.cells #[.pointer (some ⟨rb, 0, none⟩)] 168) = X3 at *
  refine cd.out.mono ?_
  rintro e X4 ⟨rfl, h4, b4, k4⟩
  have r4 := k4.cell (k := r0) (by simp; have := hr0.out; have := hrb2.out; omega) r3
  have tb4 := Lib.hid (tb3.out.kl k4 (by simp; have := hrb2.out; omega))
  have nt4 := Lib.hid (nt3.out.kl k4 (by simp; have := hrb2.out; omega))
  have ca4 : Ca X4 b (a + 1) (l.length + 1) (some mb) (l ++ [(s, rb)]) := by
    have g := h1.out.more (w2 := X2) (w3 := X3) (w4 := X4) hs hne.out hmb.out n.out k3.out
    rw [hrbe.out] at g
    exact g h4 b4 k4
  have bh : Hid (Behind w b a m l s X4 (some mb) (l ++ [(s, rb)])) := by
    refine ⟨by rw [List.length_append]; exact ca4, fun hm => absurd hm hn.out, fun _ => by simp, fun x hx => ?_, ?_⟩
    · simp only [owned, List.mem_cons, List.mem_append, List.mem_map, Option.toList_some] at hx
      rcases hx with g | g | ⟨q, g1 | g1, rfl⟩
      · exact Or.inl (by simp [owned, g])
      · have gx : x = mb := by simpa using g
        rcases hmb.out with g' | g'
        · exact Or.inl (by simp [owned, g', gx])
        · right; have := hrbe.out; have := hrb2.out; omega
      · exact Or.inl (by simp only [owned, List.mem_cons, List.mem_append, List.mem_map]; exact Or.inr (Or.inr ⟨q, g1, rfl⟩))
      · right
        simp only [List.not_mem_nil, or_false] at g1
        subst g1
        have := hrb2.out
        show w.heap.size ≤ rb
        omega
    · refine (kn.out.trans (k4.mono (fun k hk => Or.inl (by simp at hk; rcases hk with g | g <;> simp [g])))).mono (fun k hk => ?_)
      simp only [List.mem_cons, List.not_mem_nil, or_false] at hk
      rcases hk with g | g | g
      · exact Or.inl (by simp [owned, g])
      · rcases hmb.out with g' | g'
        · exact Or.inl (by simp [owned, g', g])
        · right; have := hrbe.out; have := hrb2.out; omega
      · right; have := hrb2.out; omega
  replace h4 := Lib.hid h4
  clear ca4 b4 k4 cd r3 n k3 kn tb3 nt3 h h1 k1 k0 tb nt tb1 nt1 hlt
  obtain ⟨q11, q3, q4, q5, q6, q7, q8, q9, q10⟩ := rd_cells h4.out
  have r4d : X4.drew.cell? ⟨r0, 0, none⟩ = some (.pointer (some ⟨rb, 0, none⟩)) := r4
  cases hx : parse s.data.toList with
  | none =>
    have fin := Lib.hid (answerC_none hx after)
    have e1 : erOf s = 7 := by unfold erOf; rw [hx]; rfl
    rw [e1] at q11
    have q11d : X4.drew.cell? ⟨rb, 11, none⟩ = some (.int .i64 7) := q11
    clear hx e1 Cn
    go_wp2_with fail
    go_quiet (fail)
    go_wp2_with fail
    go_ret2
    exact ⟨by rw [fin.out]; rfl, _, _, bh.out.drewN nq⟩
  | some x =>
    have fin := Lib.hid (answerC_some hx after)
    have e1 : erOf s = 0 := by unfold erOf; rw [hx]; rfl
    have e2 : spOf s = x := by unfold spOf; rw [hx]; rfl
    rw [e1] at q11
    rw [e2] at q3 q4 q5 q6 q7 q8 q9 q10
    have cn := Lib.hid (Cn.out x X4 hx tb4.out nt4.out)
    generalize nextN x after = R at *
    clear hx e1 e2 Cn h4
    obtain ⟨x0, x1, x2, x3, x4, x5, x6, x7⟩ := x
    simp only [specV, cellsN] at *
    go_wp2_with fail
    refine cn.out.mono ?_
    rintro e w9 ⟨rfl, k9⟩
    have bh9 := Lib.hid (bh.out.below k9)
    clear k9 cn
    cases R with
    | none =>
      rw [answerX_none]
      go_wp2_with fail
      go_ret2
      exact ⟨by rw [fin.out]; rfl, _, _, bh9.out⟩
    | some n =>
      rw [answerX_some]
      go_wp2_with fail
      go_ret2
      exact ⟨by rw [fin.out]; rfl, _, _, bh9.out⟩
end Go.Proofs.YtoihekgmomjhpaaGreatDoor
namespace Go.Proofs.YtoihekgmomjhpaaGreatDoor
open Go.RowKit Crn Nxt
theorem cache_any (w : World) (b a : Nat) (m : Option Nat) (l : List (ByteArray × Nat)) (s : ByteArray) (after : Int) (tb : Tab w) (nt : NTab w) (hs : s.size ≤ 281474976710656) (ha : a ≤ 1000000) (hp : l.length ≤ 1000000) (s1 : -9223372036854775808 ≤ after) (s2 : after ≤ 9223372036854775807) (h : Ca w b a l.length m l) :
    Calls Tryz.prog 68 #[.pointer (some ⟨b, 0, none⟩), .string s, .int .i64 after] w fun e w' => e = answerC s after ∧ ∃ m' l', Behind w b a m l s w' m' l' := by
  by_cases hm : s ∈ l.map (·.1)
  · obtain ⟨q, hq, rfl⟩ := List.mem_map.1 hm
    cases m with
    | none =>
      have := h.empty rfl
      subst this
      cases hq
    | some mb => exact next_old w b a (some mb) l q.1 after tb nt hs ha hp s1 s2 h mb rfl q.2 hq
  · exact next_new w b a m l s after tb nt hs ha hp s1 s2 h hm
theorem new_any (w : World) (ht : topTab < w.heap.size) : Calls Tryz.prog 47 #[] w fun e w' => e = .returned (.pointer (some ⟨w.heap.size, 0, none⟩)) ∧ Ca w' w.heap.size 0 0 none [] ∧ Below w.heap.size w w' ∧ w'.heap.size = w.heap.size + 1 := by
  go_enter Tryz.func47, Tryz.ntmps47
  go_wp2_with fail
  go_ret
  refine ⟨rfl, ⟨Go.heap_alloc_new w _, fun _ => rfl, (fun mb h => by cases h), (fun q h => by cases h), List.Pairwise.nil, ht⟩, (Below.refl _ _).alloc (Nat.le_refl _) _, by simp⟩
end Go.Proofs.YtoihekgmomjhpaaGreatDoor
namespace Nxt
open Civ Crn
end Nxt
namespace Go.Proofs.YtoihekgmomjhpaaGreatDoor
open Go.RowKit Crn Nxt Civ
end Go.Proofs.YtoihekgmomjhpaaGreatDoor
