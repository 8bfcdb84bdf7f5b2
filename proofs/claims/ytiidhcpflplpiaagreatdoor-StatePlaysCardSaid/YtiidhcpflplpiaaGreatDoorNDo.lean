/-
  Layer 5: (*sync.Once).Do over a cache's reading: not yet done: the text is parsed, and counted; done already: nothing turns.
-/
import Derived.Test.YtiidhcpflplpiaaGreatDoorNOnce
set_option linter.unusedVariables false
namespace Go.Proofs.YtiidhcpflplpiaaGreatDoor
open Go.RowKit Crn

/-- The last block of the tables that are read. -/
def topTab : Nat := max (max 0 3) (max 2 1)
theorem Tab.kl {L : List Nat} {w w' : World} (t : Tab w) (h : Kl L w w') (hL : ∀ k, k ∈ L → topTab < k) : Tab w' := by
  have hs := t.size
  have hb : ∀ k, k ≤ max 0 3 → w'.heap[k]? = w.heap[k]? := fun k hk => h.block k (by omega) fun e => by
    have := hL k e
    unfold topTab at this
    omega
  refine ⟨fun f hf => ?_, ?_, Nat.lt_of_lt_of_le hs h.size⟩
  · obtain ⟨a, b⟩ := t.spans f hf
    exact ⟨(World.cell?_of_block (w := w) (hb 0 (by omega))).trans a, (World.cell?_of_block (w := w) (hb 0 (by omega))).trans b⟩
  · obtain ⟨m, hm⟩ := t.most
    exact ⟨m, (World.cell?_of_block (w := w) (hb 3 (by omega))).trans hm⟩
theorem NTab.kl {L : List Nat} {w w' : World} (t : NTab w) (h : Kl L w w') (hL : ∀ k, k ∈ L → topTab < k) : NTab w' := by
  have hs := t.size
  have hb : ∀ k, k ≤ max 2 1 → w'.heap[k]? = w.heap[k]? := fun k hk => h.block k (by omega) fun e => by
    have := hL k e
    unfold topTab at this
    omega
  exact ⟨fun i hi => (World.cell?_of_block (w := w) (hb 2 (by omega))).trans (t.civ i hi), fun i hi => (World.cell?_of_block (w := w) (hb 1 (by omega))).trans (t.bru i hi), Nat.lt_of_lt_of_le hs h.size⟩
theorem Kl.cell {L : List Nat} {w w' : World} (h : Kl L w w') {k o : Nat} (hk : k ∉ L) {v : Value} (hc : w.cell? ⟨k, o, none⟩ = some v) : w'.cell? ⟨k, o, none⟩ = some v :=
  (World.cell?_of_block (w := w) (h.block k (World.block_lt_of_cell? w _ hc) hk)).trans hc

set_option maxRecDepth 100000 in
set_option maxHeartbeats 1600000 in
theorem slow_any (t r c rb b : Nat) (s : ByteArray) (a p : Nat) (m : Option Nat) (w : World) (tb : Tab w) (hs : s.size ≤ 281474976710656) (hp : p ≤ 1000000)
    (ht : w.cell? ⟨t, 0, none⟩ = some (.string s)) (hr : w.cell? ⟨r, 0, none⟩ = some (.pointer (some ⟨rb, 0, none⟩))) (hc : w.cell? ⟨c, 0, none⟩ = some (.pointer (some ⟨b, 0, none⟩)))
    (n0 : t ≠ rb) (n1 : r ≠ rb) (n2 : c ≠ rb) (n3 : b ≠ rb) (hi : topTab < rb)
    (hrb : w.heap[rb]? = some (.cells (rdCells 0 0 zero 0) 143)) (hb : w.heap[b]? = some (.cells (caCells a p m) 122)) :
    Calls Tryz.prog 92 #[.pointer (some ⟨rb, 0, none⟩), .func (.func 76) #[] #[.pointer (some ⟨t, 0, none⟩), .pointer (some ⟨r, 0, none⟩), .pointer (some ⟨c, 0, none⟩)]] w fun e w' => e = .returned (.tuple #[]) ∧ w'.heap[rb]? = some (.cells (rdCells 1 0 (spOf s) (erOf s)) 143) ∧ w'.heap[b]? = some (.cells (caCells a (p + 1) m) 122) ∧ Kl [rb, b] w w' := by
  have k1 : Kl [rb] w (w.setCell ⟨rb, 1, none⟩ (.int .i32 1)) := (Kl.refl _ _).setCell (by simp) 1 _
  have h1 : (w.setCell ⟨rb, 1, none⟩ (.int .i32 1)).heap[rb]? = some (.cells (rdCells 0 1 zero 0) 143) := heap_setCell_same _ rb 1 _ _ _ hrb
  have hb1 : (w.setCell ⟨rb, 1, none⟩ (.int .i32 1)).heap[b]? = some (.cells (caCells a p m) 122) := (k1.block b (lt_in hb) (by simpa using n3)).trans hb
  have cf := Lib.hid (fill_any t r c rb b s a p m _ (tb.kl k1 (by simpa using hi)) hs hp (k1.cell (by simpa using n0) ht) (k1.cell (by simpa using n1) hr) (k1.cell (by simpa using n2) hc) n1 n2 n3 h1 hb1)
  have hz1 := free_in hrb 1
  have hc1 : w.cell? ⟨rb, 1, none⟩ = some (.int .i32 0) := cell_in hrb 1
  have c0 : (w.setCell ⟨rb, 1, none⟩ (.int .i32 1)).cell? ⟨rb, 0, none⟩ = some (.int .u32 0) := cell_in h1 0
  have cb := Lib.hid (boolLoad ⟨rb, 0, none⟩ 0 _ c0)
  have hnot := not_run
  replace hb := Lib.hid hb
  replace hrb := Lib.hid hrb
  replace k1 := Lib.hid k1
  have n3' := Lib.hid n3
  clear h1 hb1 c0 ht hr hc n0 n1 n2 n3 tb
  go_enter_defers Tryz.func92, Tryz.ntmps92
  go_wp2_with (go_at_call 89; refine (lock_free ⟨rb, 1, none⟩ _ hc1 hz1).mono ?_; rintro e w' ⟨rfl, rfl⟩)
  refine cb.out.mono ?_
  rintro e w' ⟨rfl, rfl⟩
  go_wp2_with fail
  refine cf.out.mono ?_
  rintro e w2 ⟨rfl, h2, hb2, k2⟩
  go_wp2
  refine leaves_cons (f := 117) (args := #[.pointer (some ⟨rb, 0, none⟩), .bool true]) (by simp) (by simp [go_sem]) ?_
  refine (store_deferred ⟨rb, 0, none⟩ (.int .u32 0) .returning _ (cell_in h2 0) (free_in h2 0)).mono ?_
  rintro e u' w'' ⟨rfl, rfl, rfl⟩
  have h2' : w2.drew.heap[rb]? = some (.cells (rdCells 0 1 (spOf s) (erOf s)) 143) := h2
  have h3 := heap_setCell_same w2.drew rb 0 _ _ (.int .u32 1) h2'
  refine leaves_cons (f := 90) (args := #[.pointer (some ⟨rb, 1, none⟩)]) (by simp [settle]) (by simp [go_sem]) ?_
  refine (unlock_deferred ⟨rb, 1, none⟩ _ _ (cell_in h3 1) (free_in h3 1)).mono ?_
  rintro e u' w'' ⟨rfl, rfl, rfl⟩
  have h4 := heap_setCell_same _ rb 1 _ _ (.int .i32 0) h3
  have k4 : Kl [rb, b] w (((w2.drew).setCell ⟨rb, 0, none⟩ (.int .u32 1)).setCell ⟨rb, 1, none⟩ (.int .i32 0)) := ((((k1.out.mono (fun k hk => Or.inl (by simp at hk; simp [hk]))).trans k2).drew).setCell (by simp) 0 _).setCell (by simp) 1 _
  have hb4 : (((w2.drew).setCell ⟨rb, 0, none⟩ (.int .u32 1)).setCell ⟨rb, 1, none⟩ (.int .i32 0)).heap[b]? = some (.cells (caCells a (p + 1) m) 122) := (heap_setCell_other _ _ _ _ n3'.out).trans ((heap_setCell_other _ _ _ _ n3'.out).trans hb2)
  simp only [Leaves, settle, results, Tryz.results92]
  simp
  exact ⟨h4, hb4, k4⟩

set_option maxRecDepth 100000 in
theorem do_first (t r c rb b : Nat) (s : ByteArray) (a p : Nat) (m : Option Nat) (w : World) (tb : Tab w) (hs : s.size ≤ 281474976710656) (hp : p ≤ 1000000)
    (ht : w.cell? ⟨t, 0, none⟩ = some (.string s)) (hr : w.cell? ⟨r, 0, none⟩ = some (.pointer (some ⟨rb, 0, none⟩))) (hc : w.cell? ⟨c, 0, none⟩ = some (.pointer (some ⟨b, 0, none⟩)))
    (n0 : t ≠ rb) (n1 : r ≠ rb) (n2 : c ≠ rb) (n3 : b ≠ rb) (hi : topTab < rb)
    (hrb : w.heap[rb]? = some (.cells (rdCells 0 0 zero 0) 143)) (hb : w.heap[b]? = some (.cells (caCells a p m) 122)) :
    Calls Tryz.prog 75 #[.pointer (some ⟨rb, 0, none⟩), .func (.func 76) #[] #[.pointer (some ⟨t, 0, none⟩), .pointer (some ⟨r, 0, none⟩), .pointer (some ⟨c, 0, none⟩)]] w fun e w' => e = .returned (.tuple #[]) ∧ w'.heap[rb]? = some (.cells (rdCells 1 0 (spOf s) (erOf s)) 143) ∧ w'.heap[b]? = some (.cells (caCells a (p + 1) m) 122) ∧ Kl [rb, b] w w' := by
  have cs := Lib.hid (slow_any t r c rb b s a p m w tb hs hp ht hr hc n0 n1 n2 n3 hi hrb hb)
  have hnot := not_run
  have c0 : w.cell? ⟨rb, 0, none⟩ = some (.int .u32 0) := cell_in hrb 0
  have cb := Lib.hid (boolLoad ⟨rb, 0, none⟩ 0 _ c0)
  clear tb ht hr hc n0 n1 n2 n3 hi hrb hb c0
  go_enter Tryz.func75, Tryz.ntmps75
  go_wp2_with fail
  refine cb.out.mono ?_
  rintro e w' ⟨rfl, rfl⟩
  go_wp2_with fail
  refine cs.out.mono ?_
  rintro e w' ⟨rfl, h1, h2, h3⟩
  replace h1 := Lib.hid h1
  replace h2 := Lib.hid h2
  replace h3 := Lib.hid h3
  go_wp2
  go_end0
  exact ⟨rfl, h1.out, h2.out, h3.out⟩
theorem do_done (rb : Nat) (fv : Value) (x : SpecN) (er : Int) (w : World) (hrb : w.heap[rb]? = some (.cells (rdCells 1 0 x er) 143)) :
    Calls Tryz.prog 75 #[.pointer (some ⟨rb, 0, none⟩), fv] w fun e w' => e = .returned (.tuple #[]) ∧ w = w' := by
  have hnot := not_run
  have c0 : w.cell? ⟨rb, 0, none⟩ = some (.int .u32 1) := cell_in hrb 0
  have cb := Lib.hid (boolLoad ⟨rb, 0, none⟩ 1 _ c0)
  clear hrb c0
  go_enter Tryz.func75, Tryz.ntmps75
  go_wp2_with fail
  refine cb.out.mono ?_
  rintro e w' ⟨rfl, rfl⟩
  go_wp2
  go_end0
  exact ⟨rfl, rfl⟩
end Go.Proofs.YtiidhcpflplpiaaGreatDoor
