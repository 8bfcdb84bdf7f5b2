/-
  Layer 5: a cache's reading: what is parsed once (sync.Once in one goroutine), strings.Clone, cron.Parse of texts of any length.
-/
import Derived.Test.YtiidhcpflplpiaaGreatDoorNSync
import Derived.Test.YtiidhcpflplpiaaGreatDoorNBox
import Derived.Test.YtiidhcpflplpiaaGreatDoorCParse
import Derived.Deep.RegionWith
import Derived.Deep.DeepCutAuto
set_option linter.unusedVariables false
namespace Go.Proofs.YtiidhcpflplpiaaGreatDoor
open Go.RowKit Crn

theorem clone_any (s : ByteArray) (w : World) (hs : s.size ≤ 281474976710656) : Calls Tryz.prog 87 #[.string s] w fun e w' => e = .returned (.string s) ∧ Below w.heap.size w w' := by
  go_enter Tryz.func87, Tryz.ntmps87
  go_wp2_with fail
  refine (Tryz.stringslite_Clone s w hs).mono ?_
  rintro e w' ⟨rfl, k⟩
  replace k := Lib.hid k
  go_wp2_with fail
  go_ret
  exact ⟨rfl, k.out⟩

set_option maxRecDepth 100000 in
set_option maxHeartbeats 400000 in
theorem cParse_far (s : ByteArray) (w : World) (hs : 256 < (s.size : Int)) (hm : (s.size : Int) ≤ 281474976710656) :
    Calls Tryz.prog 77 #[.string s] w fun e w' => e = answerE none ∧ Below w.heap.size w w' := by
  go_enter Tryz.func77, Tryz.ntmps77
  go_wp2_with fail
  refine bodyPost_ret (v := .tuple #[specV zero, .int .i64 7]) ?_ rfl ?_
  · rw [results_cell_tmp rfl]
    go_simp
    rfl
  · exact ⟨rfl, (Below.refl _ _).alloc (Nat.le_refl _) _⟩
theorem parse_far {s : ByteArray} (h : 256 < s.size) : parse s.data.toList = none := by
  unfold parse
  exact if_pos (by simpa using h)
theorem cParse_all (s : ByteArray) (w : World) (tb : Tab w) (hm : s.size ≤ 281474976710656) :
    Calls Tryz.prog 77 #[.string s] w fun e w' => e = answerE (parse s.data.toList) ∧ Below w.heap.size w w' := by
  by_cases h : 256 < s.size
  · rw [parse_far h]
    exact cParse_far s w (by omega) (by omega)
  · exact cParse_any s w tb (by omega)

/-- Of what was there only these blocks may have turned. -/
structure Kl (L : List Nat) (w w' : World) : Prop where
  os : w'.os = w.os
  tape : w'.tape = w.tape
  output : w'.output = w.output
  size : w.heap.size ≤ w'.heap.size
  block : ∀ k, k < w.heap.size → k ∉ L → w'.heap[k]? = w.heap[k]?
theorem Kl.refl (L : List Nat) (w : World) : Kl L w w := ⟨rfl, rfl, rfl, Nat.le_refl _, fun _ _ _ => rfl⟩
theorem Kl.trans {L : List Nat} {x y z : World} (h : Kl L x y) (k : Kl L y z) : Kl L x z :=
  ⟨k.os.trans h.os, k.tape.trans h.tape, k.output.trans h.output, Nat.le_trans h.size k.size, fun i hi hb => (k.block i (Nat.lt_of_lt_of_le hi h.size) hb).trans (h.block i hi hb)⟩
theorem Kl.mono {L M : List Nat} {x y : World} (h : Kl L x y) (hs : ∀ k, k ∈ L → k ∈ M ∨ x.heap.size ≤ k) : Kl M x y :=
  ⟨h.os, h.tape, h.output, h.size, fun i hi hb => h.block i hi fun e => by rcases hs i e with g | g; exact hb g; omega⟩
theorem Kl.drew {L : List Nat} {x w : World} (h : Kl L x w) : Kl L x w.drew := ⟨h.os, h.tape, h.output, h.size, h.block⟩
theorem Kl.setCell {L : List Nat} {b : Nat} {x w : World} (h : Kl L x w) (hb : b ∈ L) (o : Nat) (u : Value) : Kl L x (w.setCell ⟨b, o, none⟩ u) :=
  h.trans ⟨rfl, rfl, rfl, by simp [World.setCell], fun k _ hk => Below.heap_setCell _ _ _ _ (fun e => hk (by rw [e]; exact hb))⟩
theorem Kl.ofBelow {L : List Nat} {w w' : World} (h : Below w.heap.size w w') : Kl L w w' := ⟨h.os, h.tape, h.output, h.size, fun k hk _ => h.block k hk⟩
theorem Kl.below {L : List Nat} {B : Nat} {w w' : World} (h : Kl L w w') (hb : ∀ k, k ∈ L → B ≤ k) (hB : B ≤ w.heap.size) : Below B w w' :=
  ⟨h.os, h.tape, h.output, h.size, fun k hk => h.block k (by omega) fun e => by have := hb k e; omega⟩

def caCells (a p : Nat) (m : Option Nat) : Array Value := #[.int .i64 a, .int .i64 p, .int .i32 0, .int .u32 0, .map m]
def caHeld (a p : Nat) (m : Option Nat) : Array Value := #[.int .i64 a, .int .i64 p, .int .i32 1, .int .u32 0, .map m]
def rdCells (d st : Int) (x : SpecN) (er : Int) : Array Value := #[.int .u32 d, .int .i32 st, .int .u32 0, .int .u64 x.min, .int .u64 x.hour, .int .u64 x.dom, .int .u64 x.mon, .int .u64 x.dow, .bool x.anyDom, .bool x.anyDow, .int .i64 x.ahead, .int .i64 er]
def spOf (s : ByteArray) : SpecN := (parse s.data.toList).getD zero
def erOf (s : ByteArray) : Int := errOf (parse s.data.toList)

/-- A block by its cells. -/
theorem cell_in {w : World} {b : Nat} {cs : Array Value} {t : TypeId} (h : w.heap[b]? = some (.cells cs t)) (i : Nat) : w.cell? ⟨b, i, none⟩ = cs[i]? := cell_of_row w b i cs t (0, 0) h
theorem free_in {w : World} {b : Nat} {cs : Array Value} {t : TypeId} (h : w.heap[b]? = some (.cells cs t)) (i : Nat) : w.frozen? ⟨b, i, none⟩ = false := frozen_of_row w b i cs t h
theorem lt_in {w : World} {b : Nat} {o : Obj} (h : w.heap[b]? = some o) : b < w.heap.size := (Array.getElem?_eq_some_iff.1 h).1

/-- The nine cells of a reading, written one behind the other. -/
def nineW (w : World) (rb x0 x1 x2 x3 x4 : Nat) (x5 x6 : Bool) (x7 er : Int) : World :=
  ((((((((w.setCell ⟨rb, 3, none⟩ (.int .u64 x0)).setCell ⟨rb, 4, none⟩ (.int .u64 x1)).setCell ⟨rb, 5, none⟩ (.int .u64 x2)).setCell ⟨rb, 6, none⟩ (.int .u64 x3)).setCell ⟨rb, 7, none⟩ (.int .u64 x4)).setCell ⟨rb, 8, none⟩ (.bool x5)).setCell ⟨rb, 9, none⟩ (.bool x6)).setCell ⟨rb, 10, none⟩ (.int .i64 x7)).setCell ⟨rb, 11, none⟩ (.int .i64 er)
theorem nine_block {w : World} {rb : Nat} (h : w.heap[rb]? = some (.cells (rdCells 0 1 zero 0) 143)) (x0 x1 x2 x3 x4 : Nat) (x5 x6 : Bool) (x7 er : Int) :
    (nineW w rb x0 x1 x2 x3 x4 x5 x6 x7 er).heap[rb]? = some (.cells (rdCells 0 1 ⟨x0, x1, x2, x3, x4, x5, x6, x7⟩ er) 143) := by
  have h3 := heap_setCell_same _ rb 3 _ _ (.int .u64 x0) h
  have h4 := heap_setCell_same _ rb 4 _ _ (.int .u64 x1) h3
  have h5 := heap_setCell_same _ rb 5 _ _ (.int .u64 x2) h4
  have h6 := heap_setCell_same _ rb 6 _ _ (.int .u64 x3) h5
  have h7 := heap_setCell_same _ rb 7 _ _ (.int .u64 x4) h6
  have h8 := heap_setCell_same _ rb 8 _ _ (.bool x5) h7
  have h9 := heap_setCell_same _ rb 9 _ _ (.bool x6) h8
  have h10 := heap_setCell_same _ rb 10 _ _ (.int .i64 x7) h9
  have h11 := heap_setCell_same _ rb 11 _ _ (.int .i64 er) h10
  unfold nineW
  rw [h11]
  simp [rdCells]
theorem nine_kept {w0 w : World} {rb : Nat} (h : Below w0.heap.size w0 w) (x0 x1 x2 x3 x4 : Nat) (x5 x6 : Bool) (x7 er : Int) : Kl [rb] w0 (nineW w rb x0 x1 x2 x3 x4 x5 x6 x7 er) := by
  unfold nineW
  exact (((((((((Kl.ofBelow h).setCell (by simp) 3 _).setCell (by simp) 4 _).setCell (by simp) 5 _).setCell (by simp) 6 _).setCell (by simp) 7 _).setCell (by simp) 8 _).setCell (by simp) 9 _).setCell (by simp) 10 _).setCell (by simp) 11 _

set_option maxRecDepth 100000 in
set_option maxHeartbeats 3000000 in
theorem fill_any (t r c rb b : Nat) (s : ByteArray) (a p : Nat) (m : Option Nat) (w : World) (tb : Tab w) (hs : s.size ≤ 281474976710656) (hp : p ≤ 1000000)
    (ht : w.cell? ⟨t, 0, none⟩ = some (.string s)) (hr : w.cell? ⟨r, 0, none⟩ = some (.pointer (some ⟨rb, 0, none⟩))) (hc : w.cell? ⟨c, 0, none⟩ = some (.pointer (some ⟨b, 0, none⟩)))
    (n1 : r ≠ rb) (n2 : c ≠ rb) (n3 : b ≠ rb)
    (hrb : w.heap[rb]? = some (.cells (rdCells 0 1 zero 0) 143)) (hb : w.heap[b]? = some (.cells (caCells a p m) 122)) :
    Calls Tryz.prog 76 #[.pointer (some ⟨t, 0, none⟩), .pointer (some ⟨r, 0, none⟩), .pointer (some ⟨c, 0, none⟩)] w fun e w' => e = .returned (.tuple #[]) ∧ w'.heap[rb]? = some (.cells (rdCells 0 1 (spOf s) (erOf s)) 143) ∧ w'.heap[b]? = some (.cells (caCells a (p + 1) m) 122) ∧ Kl [rb, b] w w' := by
  have cp := Lib.hid (fun W t => cParse_all s W t hs)
  have cp' : Hid (∀ W, Tab W → Calls Tryz.prog 77 #[.string s] W fun e w' => e = .returned (.tuple #[specV (spOf s), .int .i64 (erOf s)]) ∧ Below W.heap.size W w') := cp
  clear cp
  generalize erOf s = er at *
  generalize spOf s = x at *
  obtain ⟨x0, x1, x2, x3, x4, x5, x6, x7⟩ := x
  simp only [specV, cellsN] at *
  go_enter Tryz.func76, Tryz.ntmps76
  have tb1 : Hid (Tab w.drew) := tb.below (Below.refl _ _).drew
  have hrl := World.block_lt_of_cell? w _ hr
  have hcl := World.block_lt_of_cell? w _ hc
  have hbl := lt_in hb
  have hrbl := lt_in hrb
  replace hb := Lib.hid hb
  replace hrb := Lib.hid hrb
  have hc' := Lib.hid hc
  clear hc
  clear tb
  go_upto_region 0 with fail
  go_cut [] (fun wc => Hid (wc.heap[rb]? = some (.cells (rdCells 0 1 ⟨x0, x1, x2, x3, x4, x5, x6, x7⟩ er) 143)) ∧ Hid (Kl [rb] w wc))
  case first =>
    go_region_with ((go_at_call 77; (with_reducible refine (cp'.out _ tb1.out).mono ?_); rintro e w6 ⟨rfl, k6⟩; have kk : Hid (Below w.heap.size w w6) := (Below.refl _ _).drew.trans k6; clear k6; have r6 : w6.cell? ⟨r, 0, none⟩ = some (.pointer (some ⟨rb, 0, none⟩)) := (kk.out.cell (p := ⟨r, 0, none⟩) hrl).trans hr; have hb6 : Hid (w6.heap[rb]? = some (.cells (rdCells 0 1 zero 0) 143)) := (kk.out.block rb hrbl).trans hrb.out; have g3 : w6.cell? ⟨rb, 3, none⟩ = some (.int .u64 0) := cell_in hb6.out 3; have g4 : w6.cell? ⟨rb, 4, none⟩ = some (.int .u64 0) := cell_in hb6.out 4; have g5 : w6.cell? ⟨rb, 5, none⟩ = some (.int .u64 0) := cell_in hb6.out 5; have g6 : w6.cell? ⟨rb, 6, none⟩ = some (.int .u64 0) := cell_in hb6.out 6; have g7 : w6.cell? ⟨rb, 7, none⟩ = some (.int .u64 0) := cell_in hb6.out 7; have g8 : w6.cell? ⟨rb, 8, none⟩ = some (.bool false) := cell_in hb6.out 8; have g9 : w6.cell? ⟨rb, 9, none⟩ = some (.bool false) := cell_in hb6.out 9; have g10 : w6.cell? ⟨rb, 10, none⟩ = some (.int .i64 0) := cell_in hb6.out 10; have g11 : w6.cell? ⟨rb, 11, none⟩ = some (.int .i64 0) := cell_in hb6.out 11; have f3 := free_in hb6.out 3; have f4 := free_in hb6.out 4; have f5 := free_in hb6.out 5; have f6 := free_in hb6.out 6; have f7 := free_in hb6.out 7; have f8 := free_in hb6.out 8; have f9 := free_in hb6.out 9; have f10 := free_in hb6.out 10; have f11 := free_in hb6.out 11))
    all_goals
      go_wp2_with fail
      go_meet
      (first | (with_reducible exact ⟨nine_block hb6.out x0 x1 x2 x3 x4 x5 x6 x7 er, nine_kept kk.out x0 x1 x2 x3 x4 x5 x6 x7 er⟩) | (show Hid ((nineW w6 rb x0 x1 x2 x3 x4 x5 x6 x7 er).heap[rb]? = _) ∧ Hid (Kl [rb] w (nineW w6 rb x0 x1 x2 x3 x4 x5 x6 x7 er)); exact ⟨nine_block hb6.out x0 x1 x2 x3 x4 x5 x6 x7 er, nine_kept kk.out x0 x1 x2 x3 x4 x5 x6 x7 er⟩))
  case rest =>
    obtain ⟨hz, kz⟩ := hcut
    have c7 : wc.cell? ⟨c, 0, none⟩ = some (.pointer (some ⟨b, 0, none⟩)) := (World.cell?_of_block (w := w) (kz.out.block c hcl (by simpa using n2))).trans hc'.out
    have hb7 : Hid (wc.heap[b]? = some (.cells (caCells a p m) 122)) := (kz.out.block b hbl (by simpa using n3)).trans hb.out
    have p7 : wc.cell? ⟨b, 1, none⟩ = some (.int .i64 (p : Nat)) := cell_in hb7.out 1
    have f7 := free_in hb7.out 1
    have ca := Lib.hid (int64Add ⟨b, 1, none⟩ p wc hp p7 f7)
    clear hr ht n1 n2 cp' tb1 hrb hc'
    go_wp2_with fail
    refine ca.out.mono ?_
    rintro e w9 ⟨rfl, rfl⟩
    go_wp2_with fail
    go_end0
    refine ⟨rfl, (heap_setCell_other _ _ _ _ (by show rb ≠ b; exact fun e => n3 e.symm)).trans hz.out, (heap_setCell_same _ b 1 _ _ _ hb7.out), ?_⟩
    exact (kz.out.mono (fun k hk => Or.inl (by simp at hk; simp [hk]))).setCell (by simp) 1 _
end Go.Proofs.YtiidhcpflplpiaaGreatDoor
