/-
  A table in memory, and what keeps it: 'Tab w b d s m h': block b of the world w is a table with these four words and these sixteen sums; 'Kept b w w'': of what was there only block b may have turned.
-/
import Derived.Test.YtdkdkkledlolcaaKSync
namespace Go.Proofs.Ytdkdkkledlolcaa.K
open Go.RowKit Crc
set_option maxRecDepth 100000

structure Kept (b : Nat) (w w' : World) : Prop where
  os : w'.os = w.os
  tape : w'.tape = w.tape
  output : w'.output = w.output
  size : w.heap.size ≤ w'.heap.size
  block : ∀ k, k < w.heap.size → k ≠ b → w'.heap[k]? = w.heap[k]?

theorem Kept.refl (b : Nat) (w : World) : Kept b w w := ⟨rfl, rfl, rfl, Nat.le_refl _, fun _ _ _ => rfl⟩
theorem Kept.trans {b : Nat} {x y z : World} (h : Kept b x y) (k : Kept b y z) : Kept b x z :=
  ⟨k.os.trans h.os, k.tape.trans h.tape, k.output.trans h.output, Nat.le_trans h.size k.size, fun i hi hb => (k.block i (Nat.lt_of_lt_of_le hi h.size) hb).trans (h.block i hi hb)⟩
theorem Kept.drew {b : Nat} {x w : World} (h : Kept b x w) : Kept b x w.drew := ⟨h.os, h.tape, h.output, h.size, h.block⟩
theorem Kept.setCell {b : Nat} {x w : World} (h : Kept b x w) (o : Nat) (u : Value) : Kept b x (w.setCell ⟨b, o, none⟩ u) :=
  h.trans ⟨rfl, rfl, rfl, by simp [World.setCell], fun k _ hb => Below.heap_setCell _ _ _ _ hb⟩
theorem Kept.below {b B : Nat} {w w' : World} (h : Kept b w w') (hb : B ≤ b) (hB : B ≤ w.heap.size) : Below B w w' :=
  ⟨h.os, h.tape, h.output, h.size, fun k hk => h.block k (by omega) (by omega)⟩
theorem Kept.ofBelow {b : Nat} {w w' : World} (h : Below w.heap.size w w') : Kept b w w' := ⟨h.os, h.tape, h.output, h.size, fun k hk _ => h.block k hk⟩

structure Tab (w : World) (b : Nat) (d s m : Int) (h : Nat → Nat) : Prop where
  lt : b < w.heap.size
  c0 : w.cell? ⟨b, 0, none⟩ = some (.int .u32 d)
  c1 : w.cell? ⟨b, 1, none⟩ = some (.int .i32 s)
  c3 : w.cell? ⟨b, 3, none⟩ = some (.int .i32 m)
  ch : ∀ i, i < 16 → w.cell? ⟨b, 4 + i, none⟩ = some (.int .u32 (h i : Nat))
  fz : ∀ o, w.frozen? ⟨b, o, none⟩ = false

theorem Tab.same {w w' : World} {b : Nat} {d s m : Int} {h : Nat → Nat} (t : Tab w b d s m h) (hs : w.heap.size ≤ w'.heap.size) (e : w'.heap[b]? = w.heap[b]?) : Tab w' b d s m h :=
  ⟨Nat.lt_of_lt_of_le t.lt hs, (World.cell?_of_block (w := w) e).trans t.c0, (World.cell?_of_block (w := w) e).trans t.c1, (World.cell?_of_block (w := w) e).trans t.c3,
    fun i hi => (World.cell?_of_block (w := w) e).trans (t.ch i hi), fun o => (World.frozen?_of_block (w := w) e).trans (t.fz o)⟩
theorem Tab.below {w w' : World} {b : Nat} {d s m : Int} {h : Nat → Nat} (t : Tab w b d s m h) (k : Below w.heap.size w w') : Tab w' b d s m h := t.same k.size (k.block b t.lt)
theorem Tab.kept {w w' : World} {b b' : Nat} {d s m : Int} {h : Nat → Nat} (t : Tab w b d s m h) (k : Kept b' w w') (hb : b ≠ b') : Tab w' b d s m h := t.same k.size (k.block b t.lt hb)
theorem Tab.drew {w : World} {b : Nat} {d s m : Int} {h : Nat → Nat} (t : Tab w b d s m h) : Tab w.drew b d s m h := t.same (Nat.le_refl _) rfl

theorem off_ne {b i j : Nat} (h : i ≠ j) : (⟨b, i, none⟩ : Addr) ≠ ⟨b, j, none⟩ := fun e => h (congrArg Addr.off e)

theorem Tab.setHalf {w : World} {b : Nat} {d s m : Int} {h : Nat → Nat} (t : Tab w b d s m h) (k x : Nat) (hk : k < 16) :
    Tab (w.setCell ⟨b, 4 + k, none⟩ (.int .u32 (x : Nat))) b d s m (fun i => if i = k then x else h i) := by
  refine ⟨by simpa [World.setCell] using t.lt, ?_, ?_, ?_, fun i hi => ?_, fun o => by simp [t.fz o]⟩
  · exact (World.cell?_setCell_other _ _ _ _ (off_ne (by omega))).trans t.c0
  · exact (World.cell?_setCell_other _ _ _ _ (off_ne (by omega))).trans t.c1
  · exact (World.cell?_setCell_other _ _ _ _ (off_ne (by omega))).trans t.c3
  · by_cases e : i = k
    · subst e
      rw [if_pos rfl]
      exact World.cell?_setCell_same _ _ _ (t.ch i hi)
    · rw [if_neg e]
      exact (World.cell?_setCell_other _ _ _ _ (off_ne (by omega))).trans (t.ch i hi)
theorem Tab.setDone {w : World} {b : Nat} {d s m : Int} {h : Nat → Nat} (t : Tab w b d s m h) (x : Int) : Tab (w.setCell ⟨b, 0, none⟩ (.int .u32 x)) b x s m h :=
  ⟨by simpa [World.setCell] using t.lt, World.cell?_setCell_same _ _ _ t.c0, (World.cell?_setCell_other _ _ _ _ (off_ne (by omega))).trans t.c1, (World.cell?_setCell_other _ _ _ _ (off_ne (by omega))).trans t.c3,
    fun i hi => (World.cell?_setCell_other _ _ _ _ (off_ne (by omega))).trans (t.ch i hi), fun o => by simp [t.fz o]⟩
theorem Tab.setState {w : World} {b : Nat} {d s m : Int} {h : Nat → Nat} (t : Tab w b d s m h) (x : Int) : Tab (w.setCell ⟨b, 1, none⟩ (.int .i32 x)) b d x m h :=
  ⟨by simpa [World.setCell] using t.lt, (World.cell?_setCell_other _ _ _ _ (off_ne (by omega))).trans t.c0, World.cell?_setCell_same _ _ _ t.c1, (World.cell?_setCell_other _ _ _ _ (off_ne (by omega))).trans t.c3,
    fun i hi => (World.cell?_setCell_other _ _ _ _ (off_ne (by omega))).trans (t.ch i hi), fun o => by simp [t.fz o]⟩
theorem Tab.setMade {w : World} {b : Nat} {d s m : Int} {h : Nat → Nat} (t : Tab w b d s m h) (x : Int) : Tab (w.setCell ⟨b, 3, none⟩ (.int .i32 x)) b d s x h :=
  ⟨by simpa [World.setCell] using t.lt, (World.cell?_setCell_other _ _ _ _ (off_ne (by omega))).trans t.c0, (World.cell?_setCell_other _ _ _ _ (off_ne (by omega))).trans t.c1, World.cell?_setCell_same _ _ _ t.c3,
    fun i hi => (World.cell?_setCell_other _ _ _ _ (off_ne (by omega))).trans (t.ch i hi), fun o => by simp [t.fz o]⟩

/-- A new table, not made yet. -/
def newCells : Array Value := #[.int .u32 0, .int .i32 0, .int .u32 0, .int .i32 0, .int .u32 0, .int .u32 0, .int .u32 0, .int .u32 0, .int .u32 0, .int .u32 0, .int .u32 0, .int .u32 0, .int .u32 0, .int .u32 0, .int .u32 0, .int .u32 0, .int .u32 0, .int .u32 0, .int .u32 0, .int .u32 0]

/-- THE NEW TABLE, AND THE TABLE BEHIND ITS FIRST SUM. -/
def Fresh (w : World) (b : Nat) : Prop := Tab w b 0 0 0 (fun _ => 0)
def Ready (w : World) (b : Nat) : Prop := Tab w b 1 0 1 (fun i => steps 4 i)

theorem fresh_new (w : World) : Fresh (w.alloc (.cells newCells 96)) w.heap.size := by
  refine ⟨by simp, by simp [newCells], by simp [newCells], by simp [newCells], fun i hi => ?_, fun o => by simp⟩
  have hc : i = 0 ∨ i = 1 ∨ i = 2 ∨ i = 3 ∨ i = 4 ∨ i = 5 ∨ i = 6 ∨ i = 7 ∨ i = 8 ∨ i = 9 ∨ i = 10 ∨ i = 11 ∨ i = 12 ∨ i = 13 ∨ i = 14 ∨ i = 15 := by omega
  rcases hc with rfl | rfl | rfl | rfl | rfl | rfl | rfl | rfl | rfl | rfl | rfl | rfl | rfl | rfl | rfl | rfl <;> simp [newCells]

/-- crc.New. -/
theorem new_any (w : World) :
    Calls Try.prog 40 #[] w fun e w' => e = .returned (.pointer (some ⟨w.heap.size, 0, none⟩)) ∧ w' = w.alloc (.cells newCells 96) := by
  go_enter Try.func40, Try.ntmps40
  go_wp2
  go_ret
  exact ⟨rfl, rfl⟩
end Go.Proofs.Ytdkdkkledlolcaa.K
