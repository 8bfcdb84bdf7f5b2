/-
  []byte(s) that a call has for itself: bytes changed one by one, and the text that comes back.
-/
import Derived.Test.YtiidhcpflplpiaaGreatDoorCut
import Derived.Lib.ConvBytes
import Derived.Laws.IdiomStrings
namespace Go.Proofs.YtiidhcpflplpiaaGreatDoor
open Go.RowKit Crn

/-- The bytes of a block that may be written. -/
def Buf (w : World) (b : Nat) (l : Bytes) : Prop :=
  (∀ j (h : j < l.length), w.cell? ⟨b, j, none⟩ = some (.int .u8 (l[j].toNat : Nat))) ∧ ∀ j, j < l.length → w.frozen? ⟨b, j, none⟩ = false

theorem bytes_of (w : World) (t : ByteArray) : ∃ cap w5, (convert 9 95 (.string t)).run Tryz.prog w = .ok (.slice (some ⟨w.heap.size, 0, none⟩) t.size cap) w5 ∧ Below w.heap.size w w5 ∧ Buf w5 w.heap.size t.data.toList := by
  refine ⟨_, _, Lib.run_convert_string_bytes w 9 95 5 t Tryz.underlying9 Tryz.underlying95 Tryz.underlying5, ⟨?_, ?_, ?_, ?_, fun k hk => Lib.bytesWorld_at_old w 5 t k hk⟩, fun j hj => ?_, fun j hj => ?_⟩
  · rfl
  · rfl
  · rfl
  · rw [Lib.bytesWorld_size]; omega
  · rw [Lib.bytesWorld_cell w 5 t j (by simpa using hj), List.getD_eq_getElem?_getD, List.getElem?_eq_getElem hj]; rfl
  · have hj' : j < t.size := by simpa using hj
    simp [World.frozen?, Lib.bytesWorld_at_new, Lib.bytesCells]
    omega

theorem off_ne {b i j : Nat} (h : i ≠ j) : (⟨b, i, none⟩ : Addr) ≠ ⟨b, j, none⟩ := fun e => h (by injection e)

theorem Buf.set {w : World} {b : Nat} {l : Bytes} (h : Buf w b l) {i : Nat} (hi : i < l.length) (x : UInt8) {v : Int} (hv : v = (x.toNat : Nat)) : Buf (w.setCell ⟨b, i, none⟩ (.int .u8 v)) b (l.set i x) := by
  refine ⟨fun j hj => ?_, fun j hj => ?_⟩
  · have hj' : j < l.length := by simpa using hj
    rw [List.getElem_set]
    by_cases e : i = j
    · subst e
      rw [if_pos rfl, World.cell?_setCell_same _ _ _ (h.1 i hi), hv]
    · rw [if_neg e, World.cell?_setCell_other _ _ _ _ (off_ne e), h.1 j hj']
  · rw [World.frozen?_setCell]
    exact h.2 j (by simpa using hj)

theorem Buf.text {w : World} {b : Nat} {l : Bytes} (h : Buf w b l) (n cap : Nat) (hn : n = l.length) : (convert 95 9 (.slice (some ⟨b, 0, none⟩) n cap)).run Tryz.prog w = .ok (.string (bs l)) w := by
  have := run_convert_bytes_back (P := Tryz.prog) w 95 9 5 ⟨b, 0, none⟩ cap l Tryz.underlying95 Tryz.underlying5 Tryz.underlying9 (fun j hj => by
    have hadd : (⟨b, 0, none⟩ : Addr).add j = ⟨b, j, none⟩ := by unfold Addr.add; split <;> simp_all
    rw [hadd, h.1 j hj])
  rw [hn]
  exact this

/-- The first k bytes turned. -/
def mapTo (g : UInt8 → UInt8) (l : Bytes) (k : Nat) : Bytes := (l.take k).map g ++ l.drop k
theorem mapTo_zero (g : UInt8 → UInt8) (l : Bytes) : mapTo g l 0 = l := by simp [mapTo]
theorem mapTo_len (g : UInt8 → UInt8) (l : Bytes) (k : Nat) : (mapTo g l k).length = l.length := by
  simp [mapTo]; omega
theorem mapTo_end (g : UInt8 → UInt8) (l : Bytes) : mapTo g l l.length = l.map g := by simp [mapTo]
theorem mapTo_get (g : UInt8 → UInt8) (l : Bytes) (k : Nat) (h : k < l.length) (h' : k < (mapTo g l k).length) : (mapTo g l k)[k] = l[k] := by
  simp only [mapTo]
  rw [List.getElem_append_right (by simp; omega)]
  simp [Nat.min_eq_left (Nat.le_of_lt h)]
theorem mapTo_set (g : UInt8 → UInt8) (l : Bytes) (k : Nat) (h : k < l.length) : (mapTo g l k).set k (g l[k]) = mapTo g l (k + 1) := by
  unfold mapTo
  have hk : ((l.take k).map g).length = k := by simp; omega
  rw [List.set_append_right _ _ (by omega), hk, Nat.sub_self, List.drop_eq_getElem_cons h, List.set_cons_zero, List.take_add_one, List.getElem?_eq_getElem h, Option.toList_some, List.map_append, List.append_assoc]
  rfl
theorem mapTo_same (g : UInt8 → UInt8) (l : Bytes) (k : Nat) (h : k < l.length) (e : g l[k] = l[k]) : mapTo g l (k + 1) = mapTo g l k := by
  rw [← mapTo_set g l k h, e]
  apply List.ext_getElem (by simp)
  intro i h1 h2
  rw [List.getElem_set]
  split
  · rename_i e2
    subst e2
    rw [mapTo_get g l k h]
  · rfl
end Go.Proofs.YtiidhcpflplpiaaGreatDoor
