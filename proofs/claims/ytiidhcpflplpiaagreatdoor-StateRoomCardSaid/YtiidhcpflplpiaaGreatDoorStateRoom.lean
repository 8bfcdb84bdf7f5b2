/-
  StateRoom: there are never more timers than there is room for, nor more clients than are remembered. No condition but what the card lists.
-/
import Derived.Test.YtiidhcpflplpiaaGreatDoorSB
import Derived.Test.YtiidhcpflplpiaaGreatDoorLift
import Derived.ChangeSlices
import Derived.Deep.RegionHeld3
import Derived.Deep.DeepCutAuto
/-
  Layer 8: an operation that is handed in, opened and shut again.
-/
set_option linter.unusedVariables false
namespace Go.Proofs.YtiidhcpflplpiaaGreatDoor
open Go.ChangeShapes Go.WideShapes Go.ChangeAt Go.RowKit Go.Joins Go.Deep Crn Ste
theorem cells30 : Tryz.prog.cellsOf 30 = 10 := by kernel_rfl
theorem cells9s : Tryz.prog.cellsOf 9 = 1 := by kernel_rfl
/-- An operation's numbers are int's, and its text is no longer than a text may be in memory. -/
structure OpIs (o : OpN) : Prop where
  kind : i64 o.kind
  client : i64 o.client
  req : i64 o.req
  id : i64 o.id
  gen : i64 o.gen
  occ : i64 o.occ
  due : i64 o.due
  stamp : i64 o.stamp
  epoch : i64 o.epoch
  cron : o.cron.size ≤ maxLen
def opD {H : Type} (o : OpN) : DataW H := .agg [.lit (.int .i64 o.kind), .lit (.int .i64 o.client), .lit (.int .i64 o.req), .lit (.int .i64 o.id), .lit (.int .i64 o.gen), .lit (.int .i64 o.occ), .lit (.int .i64 o.due), .lit (.int .i64 o.stamp), .lit (.int .i64 o.epoch), .lit (.string o.cron.data.toList)]
section
variable {H : Type} {enc : TypeId × Value → H} {w : World} {base : Nat} {spare : Nat → Bool} {held : Bool}
set_option maxRecDepth 100000 in
theorem open_op {r : Reach} {b0 : Nat} {v : Value} {d : DataW H} {p : List MemPlace} (hv : Value.okWide Tryz.prog w r b0 30 v) (h : DataW.Trod enc Tryz.prog w base spare held 30 v d p) :
    ∃ o : OpN, v = opV o ∧ d = opD o ∧ p = [] ∧ OpIs o := by
  obtain ⟨cs, rfl, hsz⟩ := okWide_struct Tryz.underlying30 hv
  obtain ⟨l⟩ := cs
  match l, hsz.trans cells30 with
  | [c0, c1, c2, c3, c4, c5, c6, c7, c8, c9], _ =>
    obtain ⟨fuel, hf⟩ := h
    obtain ⟨xs, n, _, hx, _, hlen, hg⟩ := DataW.trod_struct Tryz.underlying30 hf
    match xs, hlen with
    | [y0, y1, y2, y3, y4, y5, y6, y7, y8, y9], _ =>
      simp only [Prod.mk.injEq] at hx
      have g0 : DataW.trod enc Tryz.prog w base spare held n 3 [c0] = some y0 := by simpa [Value.cells, cells3, cells9s] using hg 0 _ rfl
      have g1 : DataW.trod enc Tryz.prog w base spare held n 3 [c1] = some y1 := by simpa [Value.cells, cells3, cells9s] using hg 1 _ rfl
      have g2 : DataW.trod enc Tryz.prog w base spare held n 3 [c2] = some y2 := by simpa [Value.cells, cells3, cells9s] using hg 2 _ rfl
      have g3 : DataW.trod enc Tryz.prog w base spare held n 3 [c3] = some y3 := by simpa [Value.cells, cells3, cells9s] using hg 3 _ rfl
      have g4 : DataW.trod enc Tryz.prog w base spare held n 3 [c4] = some y4 := by simpa [Value.cells, cells3, cells9s] using hg 4 _ rfl
      have g5 : DataW.trod enc Tryz.prog w base spare held n 3 [c5] = some y5 := by simpa [Value.cells, cells3, cells9s] using hg 5 _ rfl
      have g6 : DataW.trod enc Tryz.prog w base spare held n 3 [c6] = some y6 := by simpa [Value.cells, cells3, cells9s] using hg 6 _ rfl
      have g7 : DataW.trod enc Tryz.prog w base spare held n 3 [c7] = some y7 := by simpa [Value.cells, cells3, cells9s] using hg 7 _ rfl
      have g8 : DataW.trod enc Tryz.prog w base spare held n 3 [c8] = some y8 := by simpa [Value.cells, cells3, cells9s] using hg 8 _ rfl
      have g9 : DataW.trod enc Tryz.prog w base spare held n 9 [c9] = some y9 := by simpa [Value.cells, cells3, cells9s] using hg 9 _ rfl
      obtain ⟨n0, e0, rfl, w0⟩ := DataW.trod_int Tryz.underlying3 g0
      obtain ⟨n1, e1, rfl, w1⟩ := DataW.trod_int Tryz.underlying3 g1
      obtain ⟨n2, e2, rfl, w2⟩ := DataW.trod_int Tryz.underlying3 g2
      obtain ⟨n3, e3, rfl, w3⟩ := DataW.trod_int Tryz.underlying3 g3
      obtain ⟨n4, e4, rfl, w4⟩ := DataW.trod_int Tryz.underlying3 g4
      obtain ⟨n5, e5, rfl, w5⟩ := DataW.trod_int Tryz.underlying3 g5
      obtain ⟨n6, e6, rfl, w6⟩ := DataW.trod_int Tryz.underlying3 g6
      obtain ⟨n7, e7, rfl, w7⟩ := DataW.trod_int Tryz.underlying3 g7
      obtain ⟨n8, e8, rfl, w8⟩ := DataW.trod_int Tryz.underlying3 g8
      obtain ⟨s9, e9, rfl, w9⟩ := DataW.trod_string Tryz.underlying9 g9
      obtain rfl := (List.cons.inj e0).1
      obtain rfl := (List.cons.inj e1).1
      obtain rfl := (List.cons.inj e2).1
      obtain rfl := (List.cons.inj e3).1
      obtain rfl := (List.cons.inj e4).1
      obtain rfl := (List.cons.inj e5).1
      obtain rfl := (List.cons.inj e6).1
      obtain rfl := (List.cons.inj e7).1
      obtain rfl := (List.cons.inj e8).1
      obtain rfl := (List.cons.inj e9).1
      exact ⟨⟨n0, n1, n2, n3, n4, n5, n6, n7, n8, s9⟩, rfl, by simpa [opD] using hx.1, by simpa using hx.2, ⟨wf_i64 w0, wf_i64 w1, wf_i64 w2, wf_i64 w3, wf_i64 w4, wf_i64 w5, wf_i64 w6, wf_i64 w7, wf_i64 w8, w9⟩⟩
set_option maxRecDepth 100000 in
theorem shut_op {o : OpN} (ho : OpIs o) : DataW.Trod enc Tryz.prog w base spare held 30 (opV o) (opD o) [] := by
  obtain ⟨n0, t0⟩ := field_of_Trod (shut_int (enc := enc) (w := w) (base := base) (spare := spare) (held := held) Tryz.underlying3 (i64_wf ho.kind.1 ho.kind.2)) rfl
  obtain ⟨n1, t1⟩ := field_of_Trod (shut_int (enc := enc) (w := w) (base := base) (spare := spare) (held := held) Tryz.underlying3 (i64_wf ho.client.1 ho.client.2)) rfl
  obtain ⟨n2, t2⟩ := field_of_Trod (shut_int (enc := enc) (w := w) (base := base) (spare := spare) (held := held) Tryz.underlying3 (i64_wf ho.req.1 ho.req.2)) rfl
  obtain ⟨n3, t3⟩ := field_of_Trod (shut_int (enc := enc) (w := w) (base := base) (spare := spare) (held := held) Tryz.underlying3 (i64_wf ho.id.1 ho.id.2)) rfl
  obtain ⟨n4, t4⟩ := field_of_Trod (shut_int (enc := enc) (w := w) (base := base) (spare := spare) (held := held) Tryz.underlying3 (i64_wf ho.gen.1 ho.gen.2)) rfl
  obtain ⟨n5, t5⟩ := field_of_Trod (shut_int (enc := enc) (w := w) (base := base) (spare := spare) (held := held) Tryz.underlying3 (i64_wf ho.occ.1 ho.occ.2)) rfl
  obtain ⟨n6, t6⟩ := field_of_Trod (shut_int (enc := enc) (w := w) (base := base) (spare := spare) (held := held) Tryz.underlying3 (i64_wf ho.due.1 ho.due.2)) rfl
  obtain ⟨n7, t7⟩ := field_of_Trod (shut_int (enc := enc) (w := w) (base := base) (spare := spare) (held := held) Tryz.underlying3 (i64_wf ho.stamp.1 ho.stamp.2)) rfl
  obtain ⟨n8, t8⟩ := field_of_Trod (shut_int (enc := enc) (w := w) (base := base) (spare := spare) (held := held) Tryz.underlying3 (i64_wf ho.epoch.1 ho.epoch.2)) rfl
  obtain ⟨n9, t9⟩ := shut_string_cell (enc := enc) (w := w) (base := base) (spare := spare) (held := held) Tryz.underlying9 ho.cron
  replace t0 := DataW.trod_le (show n0 ≤ n0 + n1 + n2 + n3 + n4 + n5 + n6 + n7 + n8 + n9 by omega) t0
  replace t1 := DataW.trod_le (show n1 ≤ n0 + n1 + n2 + n3 + n4 + n5 + n6 + n7 + n8 + n9 by omega) t1
  replace t2 := DataW.trod_le (show n2 ≤ n0 + n1 + n2 + n3 + n4 + n5 + n6 + n7 + n8 + n9 by omega) t2
  replace t3 := DataW.trod_le (show n3 ≤ n0 + n1 + n2 + n3 + n4 + n5 + n6 + n7 + n8 + n9 by omega) t3
  replace t4 := DataW.trod_le (show n4 ≤ n0 + n1 + n2 + n3 + n4 + n5 + n6 + n7 + n8 + n9 by omega) t4
  replace t5 := DataW.trod_le (show n5 ≤ n0 + n1 + n2 + n3 + n4 + n5 + n6 + n7 + n8 + n9 by omega) t5
  replace t6 := DataW.trod_le (show n6 ≤ n0 + n1 + n2 + n3 + n4 + n5 + n6 + n7 + n8 + n9 by omega) t6
  replace t7 := DataW.trod_le (show n7 ≤ n0 + n1 + n2 + n3 + n4 + n5 + n6 + n7 + n8 + n9 by omega) t7
  replace t8 := DataW.trod_le (show n8 ≤ n0 + n1 + n2 + n3 + n4 + n5 + n6 + n7 + n8 + n9 by omega) t8
  replace t9 := DataW.trod_le (show n9 ≤ n0 + n1 + n2 + n3 + n4 + n5 + n6 + n7 + n8 + n9 by omega) t9
  have ts := trod_struct_mk (enc := enc) (w := w) (base := base) (spare := spare) (held := held) (n := n0 + n1 + n2 + n3 + n4 + n5 + n6 + n7 + n8 + n9) (cs := (opC o).toList) (xs := [(.lit (.int .i64 o.kind), []), (.lit (.int .i64 o.client), []), (.lit (.int .i64 o.req), []), (.lit (.int .i64 o.id), []), (.lit (.int .i64 o.gen), []), (.lit (.int .i64 o.occ), []), (.lit (.int .i64 o.due), []), (.lit (.int .i64 o.stamp), []), (.lit (.int .i64 o.epoch), []), (.lit (.string o.cron.data.toList), [])]) Tryz.underlying30 (by rw [cells30]; rfl) (
    by simp [cells3, cells9s, t0, t1, t2, t3, t4, t5, t6, t7, t8, t9])
  exact ⟨_, by simpa [opV, Value.cells, opD] using ts⟩
end
end Go.Proofs.YtiidhcpflplpiaaGreatDoor

/-
  Layer 8 (no program): what the statements say of any row of operations.
-/
set_option linter.unusedVariables false
namespace Ste
open Crn Nxt

/-- The first k of a row of operations, and the service behind them. -/
def pre (f : Nat → OpN) (k : Nat) : List OpN := (List.range k).map f
noncomputable def stN (t : Int) (f : Nat → OpN) (k : Nat) : St := runN (newN t) (pre f k)
theorem stN_zero (t : Int) (f : Nat → OpN) : stN t f 0 = newN t := rfl
theorem stN_succ (t : Int) (f : Nat → OpN) (k : Nat) : stN t f (k + 1) = (applyN (stN t f k) (f k)).1 := by
  unfold stN pre
  rw [List.range_succ, List.map_append]
  exact run_snoc _ _ _

theorem known_renew {K : List Kn} (h : Apart K) {n k : Kn} (hk : known n.client K = some k) : known n.client (renew n K) = some n := by
  obtain ⟨h1, h2⟩ := known_some hk
  refine known_of (renew_apart h) ?_
  exact List.mem_map.2 ⟨k, h1, by rw [if_pos h2]⟩
theorem known_renew_other {K : List Kn} (h : Apart K) {n k : Kn} {c : Int} (hk : known c K = some k) (hn : c ≠ n.client) : known c (renew n K) = some k := by
  obtain ⟨h1, rfl⟩ := known_some hk
  exact known_of (renew_apart h) (List.mem_map.2 ⟨k, h1, by rw [if_neg hn]⟩)
theorem known_app {K L : List Kn} {k : Kn} {c : Int} (hk : known c K = some k) : known c (K ++ L) = some k := by
  unfold known at *
  rw [List.find?_append, hk]
  rfl
theorem known_last {K : List Kn} {n : Kn} (hk : known n.client K = none) : known n.client (K ++ [n]) = some n := by
  unfold known at *
  rw [List.find?_append, hk]
  simp

/-- What is remembered of a request that was answered. -/
def Done (o : OpN) (r : Rp) (s : St) : Prop := ∃ k, known o.client s.K = some k ∧ (o.req < k.req ∨ (k.req = o.req ∧ k.rp = r))
theorem change_K (s : St) (o : OpN) : (changeN s o).1.K = s.K := by
  unfold changeN setN cancelN
  split
  · split
    · rfl
    split
    · rfl
    split <;> rfl
  · split <;> rfl
theorem fire_K (s : St) (o : OpN) : (fireN s o).1.K = s.K := by
  unfold fireN
  split
  · rfl
  split <;> rfl
theorem done_new {s : St} (h : Ok s) {o : OpN} (hk : o.kind = 1 ∨ o.kind = 2) : (applyN s o).2.err = 8 ∨ Done o (applyN s o).2 (applyN s o).1 := by
  unfold applyN
  rw [if_pos hk]
  unfold askN
  split
  · rename_i k hk
    split
    · rename_i h1
      exact .inr ⟨k, hk, .inl h1⟩
    split
    · rename_i h2
      exact .inr ⟨k, hk, .inr ⟨h2, rfl⟩⟩
    · exact .inr ⟨_, known_renew (n := ⟨o.client, o.req, (changeN s o).2⟩) h.apart hk, .inr ⟨rfl, rfl⟩⟩
  · rename_i hk
    split
    · exact .inl rfl
    · exact .inr ⟨_, known_last (n := ⟨o.client, o.req, (changeN s o).2⟩) hk, .inr ⟨rfl, rfl⟩⟩
theorem done_step {s : St} (h : Ok s) {o : OpN} {r : Rp} (hd : Done o r s) (p : OpN) : Done o r (applyN s p).1 := by
  obtain ⟨k, hk, hr⟩ := hd
  unfold applyN
  split
  · unfold askN
    split
    · rename_i j hj
      split
      · exact ⟨k, hk, hr⟩
      split
      · exact ⟨k, hk, hr⟩
      · rename_i h1 h2
        by_cases hc : o.client = p.client
        · rw [hc] at hk
          obtain rfl := Option.some.inj (hk.symm.trans hj)
          refine ⟨⟨p.client, p.req, (changeN s p).2⟩, ?_, .inl ?_⟩
          · rw [hc]
            exact known_renew (n := ⟨p.client, p.req, (changeN s p).2⟩) h.apart hk
          · show o.req < p.req
            rcases hr with hr | ⟨hr, _⟩ <;> omega
        · exact ⟨k, known_renew_other (n := ⟨p.client, p.req, (changeN s p).2⟩) h.apart hk hc, hr⟩
    · split
      · exact ⟨k, hk, hr⟩
      · exact ⟨k, known_app hk, hr⟩
  split
  · exact ⟨k, by rw [fire_K]; exact hk, hr⟩
  · exact ⟨k, hk, hr⟩
theorem done_again {s : St} {o : OpN} {r : Rp} (hk : o.kind = 1 ∨ o.kind = 2) (hd : Done o r s) : (applyN s o).1 = s ∧ ((applyN s o).2 = r ∨ (applyN s o).2 = ⟨11, 0, 0⟩) := by
  obtain ⟨k, h1, h2⟩ := hd
  unfold applyN
  rw [if_pos hk]
  unfold askN
  rw [h1]
  simp only
  rcases h2 with h2 | ⟨h2, h3⟩
  · rw [if_pos h2]
    exact ⟨rfl, .inr rfl⟩
  · rw [if_neg (by omega), if_pos h2]
    exact ⟨rfl, .inl h3⟩

/-! Cancels. -/
def canO (c r id : Int) : OpN := ⟨2, c, r, id, 0, 0, 0, 0, 0, ⟨#[]⟩⟩
def setO (c r id : Int) : OpN := ⟨1, c, r, id, 0, 0, 5, 0, 0, ⟨#[]⟩⟩
theorem ask_newer {s : St} (h : Ok s) {o : OpN} (hk : o.kind = 1 ∨ o.kind = 2) {k : Kn} (hn : known o.client s.K = some k) (hr : k.req < o.req) :
    applyN s o = ({ (changeN s o).1 with K := renew ⟨o.client, o.req, (changeN s o).2⟩ s.K }, (changeN s o).2) := by
  unfold applyN
  rw [if_pos hk]
  unfold askN
  rw [hn]
  simp only
  rw [if_neg (by omega), if_neg (by omega)]
theorem cancel_away {s : St} (h : Ok s) {k : Kn} (hk : k ∈ s.K) (id : Int) :
    find id (applyN s (canO k.client (k.req + 1) id)).1.T = none ∧ ((applyN s (canO k.client (k.req + 1) id)).2.err = 0 ∨ (applyN s (canO k.client (k.req + 1) id)).2.err = 6) ∧
    (applyN s (canO k.client (k.req + 1) id)).1.gens = s.gens ∧ ∃ r, known k.client (applyN s (canO k.client (k.req + 1) id)).1.K = some ⟨k.client, k.req + 1, r⟩ := by
  have hn := known_of h.apart hk
  rw [ask_newer h (o := canO k.client (k.req + 1) id) (.inr rfl) hn (by show k.req < k.req + 1; omega)]
  have hc : changeN s (canO k.client (k.req + 1) id) = cancelN s (canO k.client (k.req + 1) id) := rfl
  rw [hc]
  refine ⟨?_, ?_, ?_, _, known_renew (n := ⟨k.client, k.req + 1, _⟩) h.apart hn⟩
  · show find id (cancelN s (canO k.client (k.req + 1) id)).1.T = none
    unfold cancelN
    split
    · rename_i hf; exact hf
    · exact find_none_of fun t ht => (mem_away.1 ht).2
  · unfold cancelN
    split
    · exact .inr rfl
    · exact .inl rfl
  · show (cancelN s (canO k.client (k.req + 1) id)).1.gens = s.gens
    unfold cancelN
    split <;> rfl
theorem set_new_gen {s : St} (h : Ok s) {c r : Int} {rp : Rp} (hk : known c s.K = some ⟨c, r, rp⟩) (id : Int) :
    (applyN s (setO c (r + 1) id)).2 = ⟨0, (s.gens + 1 : Nat), 5⟩ ∨ (applyN s (setO c (r + 1) id)).2.err = 5 ∨ ((applyN s (setO c (r + 1) id)).2.err = 1 ∧ (id < 0 ∨ 1000 < id)) := by
  rw [ask_newer h (o := setO c (r + 1) id) (.inl rfl) hk (by show r < r + 1; omega)]
  show (setN s (setO c (r + 1) id)).2 = _ ∨ (setN s (setO c (r + 1) id)).2.err = _ ∨ ((setN s (setO c (r + 1) id)).2.err = _ ∧ _)
  unfold setN
  split
  · rename_i h1
    refine .inr (.inr ⟨rfl, ?_⟩)
    unfold settableB setO at h1
    simp only [ByteArray.size, List.size_toArray, List.length_nil, if_pos, Bool.and_eq_false_iff, decide_eq_false_iff_not] at h1
    omega
  rw [if_neg (by rintro ⟨g, _⟩; exact g rfl)]
  split
  · exact .inr (.inl rfl)
  · exact .inl rfl

/-! Fires. -/
def look (g : Int) (L : List (Int × Int × Int)) : Option (Int × Int) := (L.find? fun p => decide (p.1 = g)).map (·.2)
def keepL (g a b : Int) (L : List (Int × Int × Int)) : List (Int × Int × Int) :=
  if (look g L).isSome then L.map fun p => if p.1 = g then (g, a, b) else p else L ++ [(g, a, b)]
theorem look_some {g : Int} {L : List (Int × Int × Int)} {q : Int × Int} (h : look g L = some q) : (g, q) ∈ L := by
  unfold look at h
  obtain ⟨p, h1, h2⟩ := Option.map_eq_some_iff.1 h
  have h3 := List.mem_of_find?_eq_some h1
  have h4 : p.1 = g := by simpa using List.find?_some h1
  rw [← h4, ← h2]
  exact h3
theorem look_none {g : Int} {L : List (Int × Int × Int)} (h : look g L = none) : ∀ p ∈ L, p.1 ≠ g := by
  unfold look at h
  rw [Option.map_eq_none_iff] at h
  intro p hp
  have := List.find?_eq_none.1 h p hp
  simpa using this
theorem mem_keepL {g a b : Int} {L : List (Int × Int × Int)} {p : Int × Int × Int} (h : p ∈ keepL g a b L) : p = (g, a, b) ∨ (p ∈ L ∧ p.1 ≠ g) := by
  unfold keepL at h
  split at h
  · obtain ⟨q, h1, rfl⟩ := List.mem_map.1 h
    split
    · exact .inl rfl
    · rename_i e; exact .inr ⟨h1, e⟩
  · rename_i hn
    have hn : look g L = none := by simpa using hn
    rcases List.mem_append.1 h with h | h
    · exact .inr ⟨h, look_none hn p h⟩
    · exact .inl (by simpa using h)
theorem keepL_keys {g a b : Int} {L : List (Int × Int × Int)} (h : L.Pairwise fun p q => p.1 ≠ q.1) : (keepL g a b L).Pairwise fun p q => p.1 ≠ q.1 := by
  unfold keepL
  split
  · rw [List.pairwise_map]
    refine h.imp ?_
    intro p q hpq
    split <;> split <;> simp_all
  · rename_i hn
    have hn : look g L = none := by simpa using hn
    rw [List.pairwise_append]
    exact ⟨h, by simp, fun p hp q hq => by simp only [List.mem_singleton] at hq; subst hq; exact look_none hn p hp⟩

structure FInv (s : St) (L : List (Int × Int × Int)) : Prop where
  keys : L.Pairwise fun p q => p.1 ≠ q.1
  low : ∀ p ∈ L, 1 ≤ p.1 ∧ p.1 ≤ s.gens
  gens : s.T.Pairwise fun t u => t.gen ≠ u.gen
  last : ∀ t ∈ s.T, ∀ p ∈ L, p.1 = t.gen → t.cron.size ≠ 0 ∧ t.due = afterN t.cron (max p.2.1 p.2.2)
  cron : ∀ t ∈ s.T, t.cron.size ≠ 0 → badB t.cron = false ∧ ∃ sec, t.due = afterN t.cron sec
theorem finv_new (t : Int) : FInv (newN t) [] := ⟨.nil, fun p h => (by cases h), .nil, fun t h => (by cases h), fun t h => (by cases h)⟩
theorem away_sub (id : Int) (T : List Tm) : (away id T).Sublist T := List.filter_sublist
theorem put_gens {t : Tm} {T : List Tm} (hu : Up T) (h : T.Pairwise fun t u => t.gen ≠ u.gen) (hn : ∀ u ∈ T, u.id ≠ t.id) (hg : ∀ u ∈ T, u.gen ≠ t.gen) : (put t T).Pairwise fun t u => t.gen ≠ u.gen := by
  refine (put_perm hu hn).symm.pairwise (R := fun t u : Tm => t.gen ≠ u.gen) ?_ (fun {a b} g e => g e.symm)
  rw [List.pairwise_cons]
  exact ⟨fun u hu e => hg u hu e.symm, h⟩
theorem finv_away {s s' : St} {L : List (Int × Int × Int)} (h : FInv s L) (id : Int) (hT : s'.T = away id s.T) (hg : s'.gens = s.gens) : FInv s' L := by
  have hs := away_sub id s.T
  rw [← hT] at hs
  exact ⟨h.keys, by rw [hg]; exact h.low, h.gens.sublist hs, fun t ht => h.last t (hs.subset ht), fun t ht => h.cron t (hs.subset ht)⟩
theorem finv_same {s s' : St} {L : List (Int × Int × Int)} (h : FInv s L) (hT : s'.T = s.T) (hg : s'.gens = s.gens) : FInv s' L :=
  ⟨h.keys, by rw [hg]; exact h.low, by rw [hT]; exact h.gens, by rw [hT]; exact h.last, by rw [hT]; exact h.cron⟩
theorem finv_change {s : St} (hs : Ok s) {L : List (Int × Int × Int)} (h : FInv s L) (o : OpN) : FInv (changeN s o).1 L := by
  unfold changeN
  split
  · unfold setN
    split
    · exact h
    split
    · exact h
    split
    · exact h
    rename_i h1 h2 h3
    have hn : ∀ u ∈ away o.id s.T, u.id ≠ o.id := fun u hu => (mem_away.1 hu).2
    have hgl : ∀ u ∈ s.T, u.gen ≤ s.gens := fun u hu => (hs.tm u hu).gen1
    have hall : ∀ u, u ∈ put ⟨o.id, o.client, (s.gens + 1 : Nat), dueN o, o.cron⟩ (away o.id s.T) → u = ⟨o.id, o.client, (s.gens + 1 : Nat), dueN o, o.cron⟩ ∨ u ∈ s.T := fun u hu => by
      rcases (mem_put hn).1 hu with e | e
      · exact .inl e
      · exact .inr (mem_away.1 e).1
    refine ⟨h.keys, fun p hp => ?_, put_gens (away_up hs.up) (h.gens.sublist (away_sub _ _)) hn (fun u hu => ?_), fun t ht p hp e => ?_, fun t ht hc => ?_⟩
    · have := h.low p hp
      show 1 ≤ p.1 ∧ p.1 ≤ ((s.gens + 1 : Nat) : Int)
      omega
    · have := hgl u (mem_away.1 hu).1
      show u.gen ≠ ((s.gens + 1 : Nat) : Int)
      omega
    · rcases hall t ht with rfl | ht
      · have := h.low p hp
        have e2 : p.1 = ((s.gens + 1 : Nat) : Int) := e
        omega
      · exact h.last t ht p hp e
    · rcases hall t ht with rfl | ht
      · simp only at hc
        refine ⟨?_, o.stamp, ?_⟩
        · cases hb : badB o.cron with
          | false => rfl
          | true => exact absurd ⟨hc, hb⟩ h2
        · show dueN o = _
          unfold dueN
          rw [if_neg hc]
      · exact h.cron t ht hc
  · unfold cancelN
    split
    · exact h
    · exact finv_away h o.id rfl rfl
/-- What a fire that did something shows. -/
structure Fired (s : St) (L : List (Int × Int × Int)) (o : OpN) (t : Tm) : Prop where
  at_ : find o.id s.T = some t
  gen : t.gen = o.gen
  due : t.due = o.occ
  pos : 0 < o.occ
  late : o.occ ≤ o.stamp
  again : ∀ q, look o.gen L = some q → t.cron.size ≠ 0 ∧ q.1 < o.occ
  text : t.cron.size ≠ 0 → ∃ x, parse t.cron.data.toList = some x ∧ isAt x o.occ = true ∧ ∀ q, look o.gen L = some q → nextN x (max q.1 q.2) = some o.occ
theorem after_some {c : ByteArray} {sec v : Int} (h : afterN c sec = v) (hv : 0 < v) : ∃ x, parse c.data.toList = some x ∧ nextN x sec = some v := by
  unfold afterN at h
  cases hp : parse c.data.toList with
  | none => rw [hp] at h; simp at h; omega
  | some x =>
    rw [hp] at h
    simp only at h
    refine ⟨x, rfl, ?_⟩
    cases hn : nextN x sec with
    | none => rw [hn] at h; simp at h; omega
    | some a => rw [hn] at h; simp only [Option.getD_some] at h; rw [h]
theorem fire_is {s : St} {o : OpN} (he : (applyN s o).2.err = 0) (hk : o.kind = 3) : firesB s o = true := by
  unfold applyN at he
  rw [if_neg (by omega), if_pos hk] at he
  unfold fireN at he
  cases hf : firesB s o with
  | true => rfl
  | false => rw [hf] at he; simp at he
theorem fired {s : St} {L : List (Int × Int × Int)} (hs : Ok s) (h : FInv s L) {o : OpN} (hf : firesB s o = true) : ∃ t, Fired s L o t := by
  unfold firesB at hf
  cases ht : find o.id s.T with
  | none => rw [ht] at hf; simp at hf
  | some t =>
    rw [ht] at hf
    simp only [Bool.and_eq_true, decide_eq_true_eq] at hf
    obtain ⟨_, ⟨⟨h1, h2⟩, h3⟩, h4⟩ := hf
    obtain ⟨m1, m2⟩ := find_some ht
    refine ⟨t, ht, h1, h2, h3, h4, fun q hq => ?_, fun hc => ?_⟩
    · obtain ⟨g1, g2⟩ := h.last t m1 _ (look_some hq) h1.symm
      refine ⟨g1, ?_⟩
      obtain ⟨x, e1, e2⟩ := after_some g2.symm (by omega)
      have := (nextN_range e2).1
      simp only at this
      omega
    · obtain ⟨_, sec, g2⟩ := h.cron t m1 hc
      obtain ⟨x, e1, e2⟩ := after_some g2.symm (by omega)
      refine ⟨x, e1, ?_, fun q hq => ?_⟩
      · rw [← h2]
        have := nextN_is x sec
        rw [e2] at this
        exact isAt_true.2 (by unfold IsNext at this; exact this.1)
      · obtain ⟨_, g3⟩ := h.last t m1 _ (look_some hq) h1.symm
        obtain ⟨y, e3, e4⟩ := after_some g3.symm (by omega)
        obtain rfl := Option.some.inj (e1.symm.trans e3)
        rw [e4, h2]
theorem finv_fire {s : St} {L : List (Int × Int × Int)} (hs : Ok s) (h : FInv s L) {o : OpN} {t : Tm} (hf : firesB s o = true) (F : Fired s L o t) : FInv (fireN s o).1 (keepL o.gen o.occ o.stamp L) := by
  obtain ⟨m1, m2⟩ := find_some F.at_
  have hk := hs.tm t m1
  have hg0 := hk.gen0
  have hg1 := hk.gen1
  have hge := F.gen
  have hlow : ∀ p ∈ keepL o.gen o.occ o.stamp L, 1 ≤ p.1 ∧ p.1 ≤ s.gens := fun p hp => by
    rcases mem_keepL hp with rfl | ⟨hp, _⟩
    · simp only; omega
    · exact h.low p hp
  have hsub := away_sub o.id s.T
  have hone : ∀ u ∈ away o.id s.T, u.gen ≠ o.gen := fun u hu e => by
    obtain ⟨u1, u2⟩ := mem_away.1 hu
    obtain ⟨i, hi, rfl⟩ := List.mem_iff_getElem.1 u1
    obtain ⟨j, hj, hjt⟩ := List.mem_iff_getElem.1 m1
    have hp := List.pairwise_iff_getElem.1 h.gens
    rcases Nat.lt_trichotomy i j with g | g | g
    · exact hp i j hi hj g (by rw [hjt, e, hge])
    · subst g; rw [hjt] at u2; exact u2 m2
    · exact hp j i hj hi g (by rw [hjt, e, hge])
  have hlast : ∀ u ∈ away o.id s.T, ∀ p ∈ keepL o.gen o.occ o.stamp L, p.1 = u.gen → u.cron.size ≠ 0 ∧ u.due = afterN u.cron (max p.2.1 p.2.2) := fun u hu p hp e => by
    rcases mem_keepL hp with rfl | ⟨hp, _⟩
    · exact absurd e.symm (hone u hu)
    · exact h.last u (hsub.subset hu) p hp e
  unfold fireN
  rw [if_neg (by rw [hf]; simp), F.at_]
  simp only
  by_cases hc : t.cron.size = 0
  · rw [if_pos hc]
    exact ⟨keepL_keys h.keys, hlow, h.gens.sublist hsub, hlast, fun u hu => h.cron u (hsub.subset hu)⟩
  · rw [if_neg hc]
    have hn2 : ∀ u ∈ away o.id s.T, u.id ≠ ({ t with due := afterN t.cron (max o.occ o.stamp) } : Tm).id := fun u hu => by show u.id ≠ t.id; rw [m2]; exact (mem_away.1 hu).2
    refine ⟨keepL_keys h.keys, hlow, put_gens (away_up hs.up) (h.gens.sublist hsub) hn2 (fun u hu => by show u.gen ≠ t.gen; rw [hge]; exact hone u hu), fun u hu p hp e => ?_, fun u hu hc2 => ?_⟩
    · rcases (mem_put hn2).1 hu with rfl | hu
      · refine ⟨hc, ?_⟩
        show afterN t.cron (max o.occ o.stamp) = afterN t.cron (max p.2.1 p.2.2)
        rcases mem_keepL hp with rfl | ⟨_, e2⟩
        · rfl
        · exact absurd (e.trans hge) e2
      · exact hlast u hu p hp e
    · rcases (mem_put hn2).1 hu with rfl | hu
      · exact ⟨(h.cron t m1 hc).1, _, rfl⟩
      · exact h.cron u (hsub.subset hu) hc2
theorem finv_step {s : St} {L : List (Int × Int × Int)} (hs : Ok s) (h : FInv s L) (o : OpN) (hn : ¬ ((applyN s o).2.err = 0 ∧ o.kind = 3)) : FInv (applyN s o).1 L := by
  by_cases hk : o.kind = 1 ∨ o.kind = 2
  · unfold applyN
    rw [if_pos hk]
    unfold askN
    have hc := finv_change hs h o
    split
    · split
      · exact h
      split
      · exact h
      · exact finv_same hc rfl rfl
    · split
      · exact h
      · exact finv_same hc rfl rfl
  · by_cases h3 : o.kind = 3
    · unfold applyN at hn ⊢
      rw [if_neg hk, if_pos h3] at hn ⊢
      unfold fireN at hn ⊢
      split at hn
      · rename_i e; rw [if_pos e]; exact h
      · rename_i e
        rw [if_neg e]
        split at hn
        · exact h
        · exact absurd ⟨rfl, h3⟩ hn
    · unfold applyN
      rw [if_neg hk, if_neg h3]
      exact h
theorem fire_apply {s : St} {o : OpN} (hk : o.kind = 3) : (applyN s o).1 = (fireN s o).1 := by
  unfold applyN
  rw [if_neg (by omega), if_pos hk]
end Ste

/-
  Layer 8: a row of operations that came in, opened; and whether all of them may be played (the document's Few).
-/
set_option linter.unusedVariables false
namespace Go.Proofs.YtiidhcpflplpiaaGreatDoor
open Go.ChangeShapes Go.WideShapes Go.ChangeAt Go.RowKit Go.Joins Go.Deep Crn Ste
set_option maxRecDepth 100000

theorem laidOut8 : laidOutB Tryz.prog = true := by kernel_rfl
section
variable {H : Type} {enc : TypeId × Value → H} {w : World} {base : Nat} {spare : Nat → Bool} {held : Bool}
theorem op_of_cells {m : Nat} {cs : List Value} {x : DataW H × List MemPlace} (hl : cs.length = 10) (hf : DataW.trod enc Tryz.prog w base spare held m 30 cs = some x) : ∃ o : OpN, cs = (opC o).toList ∧ OpIs o := by
  match cs, hl with
  | [c0, c1, c2, c3, c4, c5, c6, c7, c8, c9], _ =>
    obtain ⟨xs, n, _, _, _, hlen, hg⟩ := DataW.trod_struct Tryz.underlying30 hf
    match xs, hlen with
    | [y0, y1, y2, y3, y4, y5, y6, y7, y8, y9], _ =>
      have g0 : DataW.trod enc Tryz.prog w base spare held n 3 [c0] = some y0 := by simpa [cells3, cells9s] using hg 0 _ rfl
      have g1 : DataW.trod enc Tryz.prog w base spare held n 3 [c1] = some y1 := by simpa [cells3, cells9s] using hg 1 _ rfl
      have g2 : DataW.trod enc Tryz.prog w base spare held n 3 [c2] = some y2 := by simpa [cells3, cells9s] using hg 2 _ rfl
      have g3 : DataW.trod enc Tryz.prog w base spare held n 3 [c3] = some y3 := by simpa [cells3, cells9s] using hg 3 _ rfl
      have g4 : DataW.trod enc Tryz.prog w base spare held n 3 [c4] = some y4 := by simpa [cells3, cells9s] using hg 4 _ rfl
      have g5 : DataW.trod enc Tryz.prog w base spare held n 3 [c5] = some y5 := by simpa [cells3, cells9s] using hg 5 _ rfl
      have g6 : DataW.trod enc Tryz.prog w base spare held n 3 [c6] = some y6 := by simpa [cells3, cells9s] using hg 6 _ rfl
      have g7 : DataW.trod enc Tryz.prog w base spare held n 3 [c7] = some y7 := by simpa [cells3, cells9s] using hg 7 _ rfl
      have g8 : DataW.trod enc Tryz.prog w base spare held n 3 [c8] = some y8 := by simpa [cells3, cells9s] using hg 8 _ rfl
      have g9 : DataW.trod enc Tryz.prog w base spare held n 9 [c9] = some y9 := by simpa [cells3, cells9s] using hg 9 _ rfl
      obtain ⟨n0, e0, _, w0⟩ := DataW.trod_int Tryz.underlying3 g0
      obtain ⟨n1, e1, _, w1⟩ := DataW.trod_int Tryz.underlying3 g1
      obtain ⟨n2, e2, _, w2⟩ := DataW.trod_int Tryz.underlying3 g2
      obtain ⟨n3, e3, _, w3⟩ := DataW.trod_int Tryz.underlying3 g3
      obtain ⟨n4, e4, _, w4⟩ := DataW.trod_int Tryz.underlying3 g4
      obtain ⟨n5, e5, _, w5⟩ := DataW.trod_int Tryz.underlying3 g5
      obtain ⟨n6, e6, _, w6⟩ := DataW.trod_int Tryz.underlying3 g6
      obtain ⟨n7, e7, _, w7⟩ := DataW.trod_int Tryz.underlying3 g7
      obtain ⟨n8, e8, _, w8⟩ := DataW.trod_int Tryz.underlying3 g8
      obtain ⟨s9, e9, _, w9⟩ := DataW.trod_string Tryz.underlying9 g9
      obtain rfl := (List.cons.inj e0).1
      obtain rfl := (List.cons.inj e1).1
      obtain rfl := (List.cons.inj e2).1
      obtain rfl := (List.cons.inj e3).1
      obtain rfl := (List.cons.inj e4).1
      obtain rfl := (List.cons.inj e5).1
      obtain rfl := (List.cons.inj e6).1
      obtain rfl := (List.cons.inj e7).1
      obtain rfl := (List.cons.inj e8).1
      obtain rfl := (List.cons.inj e9).1
      exact ⟨⟨n0, n1, n2, n3, n4, n5, n6, n7, n8, s9⟩, rfl, ⟨wf_i64 w0, wf_i64 w1, wf_i64 w2, wf_i64 w3, wf_i64 w4, wf_i64 w5, wf_i64 w6, wf_i64 w7, wf_i64 w8, w9⟩⟩
end
instance opInh : Inhabited OpN := ⟨⟨0, 0, 0, 0, 0, 0, 0, 0, 0, ⟨#[]⟩⟩⟩
/-- A row of operations, as it is read. -/
def Ops (w : World) (a : Option Addr) (n : Nat) (f : Nat → OpN) : Prop := ∀ i, i < n → ∃ b off, a = some ⟨b, off, none⟩ ∧ (∀ j v, (opC (f i))[j]? = some v → w.cell? ⟨b, off + i * 10 + j, none⟩ = some v) ∧ OpIs (f i)
theorem Ops.keep {w w' : World} {a : Option Addr} {n : Nat} {f : Nat → OpN} (h : Ops w a n f) (k : Below w.heap.size w w') : Ops w' a n f := fun i hi => by
  obtain ⟨b, off, e, c, z⟩ := h i hi
  exact ⟨b, off, e, fun j v hj => (k.cell (p := ⟨b, off + i * 10 + j, none⟩) (World.block_lt_of_cell? w _ (c j v hj))).trans (c j v hj), z⟩
theorem Ops.at {w : World} {a : Option Addr} {n : Nat} {f : Nat → OpN} (h : Ops w a n f) (i : Nat) (hi : i < n) : ∃ b off, a = some ⟨b, off, none⟩ ∧ OpIs (f i) ∧
    w.cell? ⟨b, off + i * 10, none⟩ = some (.int .i64 (f i).kind) ∧ w.cell? ⟨b, off + i * 10 + 1, none⟩ = some (.int .i64 (f i).client) ∧ w.cell? ⟨b, off + i * 10 + 2, none⟩ = some (.int .i64 (f i).req) ∧ w.cell? ⟨b, off + i * 10 + 3, none⟩ = some (.int .i64 (f i).id) ∧ w.cell? ⟨b, off + i * 10 + 4, none⟩ = some (.int .i64 (f i).gen) ∧
    w.cell? ⟨b, off + i * 10 + 5, none⟩ = some (.int .i64 (f i).occ) ∧ w.cell? ⟨b, off + i * 10 + 6, none⟩ = some (.int .i64 (f i).due) ∧ w.cell? ⟨b, off + i * 10 + 7, none⟩ = some (.int .i64 (f i).stamp) ∧ w.cell? ⟨b, off + i * 10 + 8, none⟩ = some (.int .i64 (f i).epoch) ∧ w.cell? ⟨b, off + i * 10 + 9, none⟩ = some (.string (f i).cron) := by
  obtain ⟨b, off, e, c, z⟩ := h i hi
  exact ⟨b, off, e, z, c 0 _ rfl, c 1 _ rfl, c 2 _ rfl, c 3 _ rfl, c 4 _ rfl, c 5 _ rfl, c 6 _ rfl, c 7 _ rfl, c 8 _ rfl, c 9 _ rfl⟩
theorem ops_of {H : Type} {enc : TypeId × Value → H} {W : World} {fuel : Nat} {a : Option Addr} {len cap : Nat} {x : DataW H × List MemPlace}
    (h : DataW.trod enc Tryz.prog W 0 (fun _ => true) true fuel 22 (Value.cells (.slice a len cap)).toList = some x) : ∃ f, Ops W a len f ∧ len ≤ 9223372036854775807 := by
  rcases open_slice Tryz.underlying22 h with ⟨hcs, _⟩ | ⟨y, l, c, m, n, D, Pl, hcs, _, hl, hm, hmm, _, hx⟩
  · simp [Value.cells] at hcs
    obtain ⟨_, e, _⟩ := hcs
    exact ⟨fun _ => ⟨0, 0, 0, 0, 0, 0, 0, 0, 0, ⟨#[]⟩⟩, fun i hi => by omega, by omega⟩
  · simp [Value.cells] at hcs
    obtain ⟨rfl, rfl, rfl⟩ := hcs
    have hmm : m = cap := by simpa using hmm
    subst hmm
    have each : ∀ i, i < m → ∃ o : OpN, (∀ j v, (opC o)[j]? = some v → W.cell? (y.add (i * 10 + j)) = some v) ∧ OpIs o := by
      intro i hi
      obtain ⟨cs', h1, h2⟩ := hx i hi
      rw [cells30] at h1
      obtain ⟨_, hlen, hcell⟩ := World.cells?_some h1
      obtain ⟨o, rfl, ho⟩ := op_of_cells hlen h2
      refine ⟨o, fun j v hj => ?_, ho⟩
      have hj' : j < 10 := by
        rcases Nat.lt_or_ge j 10 with g | g
        · exact g
        · rw [Array.getElem?_eq_none (by simpa using g)] at hj; cases hj
      have := hcell j hj'
      rw [add_add] at this
      rw [this]
      rw [← Array.getElem?_toList] at hj
      exact hj
    obtain ⟨q, hq⟩ := choose_lt each
    refine ⟨q, fun i hi => ?_, by unfold maxLen at hm; omega⟩
    obtain ⟨c, z⟩ := hq i (by omega)
    obtain ⟨b, off, spot⟩ := y
    have hspot : spot = none := by
      have h0 := (hq 0 (by omega)).1 0 _ rfl
      exact by simpa [Addr.add] using World.cell?_spot h0
    subst hspot
    refine ⟨b, off, rfl, fun j v hj => ?_, z⟩
    have := c j v hj
    rw [Addr.add_lit] at this
    rw [Nat.add_assoc]
    exact this
/-- Operations that are few, and have short texts, may be played. -/
def FewP (n : Nat) (f : Nat → OpN) : Prop := n ≤ 300 ∧ ∀ i, i < n → (f i).cron.size ≤ 400
theorem FewP.ok {n : Nat} {f : Nat → OpN} (h : FewP n f) {i : Nat} (hi : i < n) (z : OpIs (f i)) : OpOk (f i) := ⟨z.kind, z.client, z.req, z.id, z.gen, z.occ, z.due, z.stamp, z.epoch, h.2 i hi⟩
end Go.Proofs.YtiidhcpflplpiaaGreatDoor

/-
  Layer 8: what the statements call besides: Few, Same, Last; a row of timers, looked at.
-/
set_option linter.unusedVariables false
namespace Go.Proofs.YtiidhcpflplpiaaGreatDoor
open Go.RowKit Crn Nxt Ste
set_option maxRecDepth 100000

def FewE (n : Nat) (f : Nat → OpN) (e : Ending) : Prop := ∃ r : Bool, e = .returned (.bool r) ∧ (r = true → FewP n f)
set_option maxHeartbeats 2000000 in
theorem few_any (w : World) (a : Option Addr) (n cap : Nat) (f : Nat → OpN) (h : Ops w a n f) (hn : n ≤ 9223372036854775807) :
    Calls Tryz.prog 10 #[.slice a n cap] w fun e w' => FewE n f e ∧ w' = w := by
  have ht := Lib.hid h.at
  replace hn := Lib.hid hn
  clear h
  go_enter Tryz.func10, Tryz.ntmps10
  go_wp2_with fail
  go_loopw [3] (fun v wr => ∃ k : Nat, v = .int .i64 k ∧ (k : Int) ≤ n ∧ Hid (∀ i, i < k → (f i).cron.size ≤ 400) ∧ wr = w) (fun v _ => ((n : Int) - intOf v).toNat)
  case atStart => exact ⟨0, rfl, by omega, fun i hi => by omega, rfl⟩
  case round =>
    obtain ⟨k, rfl, hk, hs, hw⟩ := hrel
    subst hw
    by_cases hlt : (k : Int) < n
    · obtain ⟨b, off, rfl, z, _, _, _, _, _, _, _, _, _, c9⟩ := ht.out k (by omega)
      have hw1 : IntKind.i64.wrap ((k : Int) + 1) = (k : Int) + 1 := IntWalk.i64_in _ (by have := hn.out; omega)
      have hs2 : Hid ((f k).cron.size ≤ 400 → ∀ i, i < k + 1 → (f i).cron.size ≤ 400) := fun e i hi => by
        by_cases g : i = k
        · subst g; exact e
        · exact hs.out i (by omega)
      clear z
      generalize (f k).cron = cr at *
      by_cases hc : cr.size ≤ 400
      · have hc2 : decide ((400 : Int) < (cr.size : Int)) = false := by simp; omega
        have hs3 := Lib.hid (hs2.out hc)
        clear hs2
        replace hc := Lib.hid hc
        go_wp2_with fail
        exact ⟨⟨k + 1, by go_num, by omega, hs3, by trivial⟩, by simp [intOf]; omega⟩
      · have hc2 : decide ((400 : Int) < (cr.size : Int)) = true := by simp; omega
        replace hc := Lib.hid hc
        clear hs2
        go_wp2_with fail
        go_ret
        exact ⟨⟨false, rfl, fun e => by simp at e⟩, by trivial⟩
    · have hall : Hid (n ≤ 300 → FewP n f) := fun e => ⟨e, fun i hi => hs.out i (by omega)⟩
      by_cases hl : (n : Int) ≤ 300
      · go_wp2_with fail
        go_ret
        exact ⟨⟨true, rfl, fun _ => hall.out (by omega)⟩, by trivial⟩
      · go_wp2_with fail
        go_ret
        exact ⟨⟨false, rfl, fun e => by simp at e⟩, by trivial⟩

section
variable {w w' : World} {base : Nat} {v : Value} {l : List Tm}
theorem Tms.keep (h : Tms base w v l) (k : Below w.heap.size w w') : Tms base w' v l := row_same h fun g hg => k.block g (World.ownsRow.lt h g hg).2
theorem Tms.same (h : Tms base w v l) (k : ∀ g, v.ownBlock = some g → w'.heap[g]? = w.heap[g]?) : Tms base w' v l := row_same h k
theorem Tms.form (h : Tms base w v l) : ∃ p cap, v = .slice p l.length cap ∧ (∀ i (hi : i < l.length), ∃ g, p = some ⟨g, 0, none⟩ ∧ base ≤ g ∧ g < w.heap.size ∧ w.cell? ⟨g, i * 5, none⟩ = some (.int .i64 l[i].id) ∧ w.cell? ⟨g, i * 5 + 1, none⟩ = some (.int .i64 l[i].client) ∧ w.cell? ⟨g, i * 5 + 2, none⟩ = some (.int .i64 l[i].gen) ∧ w.cell? ⟨g, i * 5 + 3, none⟩ = some (.int .i64 l[i].due) ∧ w.cell? ⟨g, i * 5 + 4, none⟩ = some (.string l[i].cron)) := by
  rcases h.2 with ⟨h1, h2⟩ | ⟨g, cap, cur, h1, hb, h3, _⟩
  · exact ⟨none, 0, by rw [h1, h2], fun i hi => by omega⟩
  · subst h1
    refine ⟨_, cap, rfl, fun i hi => ⟨g, rfl, hb, lt_in h3, ?_⟩⟩
    have hc : ∀ j u, (encT l[i])[j]? = some u → w.cell? ⟨g, i * 5 + j, none⟩ = some u := fun j u hu => by
      have hj : j < 5 := (List.getElem?_eq_some_iff.1 hu).1
      have hc := World.ownsRow.cells h (g := g) rfl (i * 5 + j) u (by rw [flatT_at l i j hi hj]; exact hu)
      rw [Addr.add_lit] at hc
      simpa using hc
    exact ⟨hc 0 _ rfl, hc 1 _ rfl, hc 2 _ rfl, hc 3 _ rfl, hc 4 _ rfl⟩
theorem tm_eq {t u : Tm} (h1 : t.id = u.id) (h2 : t.client = u.client) (h3 : t.gen = u.gen) (h4 : t.due = u.due) (h5 : t.cron = u.cron) : t = u := by
  cases t; cases u; simp_all
end
theorem take_moreT {l m : List Tm} {k : Nat} (h1 : k < l.length) (h2 : k < m.length) (h : l.take k = m.take k) (e : l[k] = m[k]) : l.take (k + 1) = m.take (k + 1) := by
  rw [← List.take_append_getElem h1, ← List.take_append_getElem h2, h, e]

set_option maxHeartbeats 4000000 in
/-- Two lists that are the same. -/
theorem same_any (w : World) (v1 v2 : Value) (l : List Tm) (b1 b2 : Nat) (h1 : Tms b1 w v1 l) (h2 : Tms b2 w v2 l) (hl : l.length ≤ 1000) :
    Calls Tryz.prog 19 #[v1, v2] w fun e w' => e = .returned (.bool true) ∧ Below w.heap.size w w' := by
  obtain ⟨p1, c1, rfl, _⟩ := h1.form
  obtain ⟨p2, c2, rfl, _⟩ := h2.form
  have hn1 : (l.length : Int) ≤ 1000000 := by omega
  replace h1 := Lib.hid h1
  replace h2 := Lib.hid h2
  have hb0 : Hid (Below w.heap.size w w) := Below.refl _ _
  go_enter Tryz.func19, Tryz.ntmps19
  go_wp2_with fail
  go_loopw [5] (fun v wr => ∃ k : Nat, v = .int .i64 k ∧ (k : Int) ≤ l.length ∧ Hid (Below w.heap.size w wr) ∧ Hid (Tms b1 wr (.slice p1 l.length c1) l) ∧ Hid (Tms b2 wr (.slice p2 l.length c2) l)) (fun v _ => ((l.length : Int) - intOf v).toNat)
  case atStart => exact ⟨0, rfl, by omega, hb0, h1, h2⟩
  case round =>
    obtain ⟨k, rfl, hk, hb, r1, r2⟩ := hrel
    clear h1 h2 hb0
    by_cases hlt : (k : Int) < l.length
    · obtain ⟨q1, d1, e1, f1⟩ := r1.out.form
      obtain ⟨q2, d2, e2, f2⟩ := r2.out.form
      injection e1 with e1 _ e3
      injection e2 with e2 _ e4
      subst e1; subst e2; subst e3; subst e4
      obtain ⟨g1, rfl, _, _, x0, x1, x2, x3, x4⟩ := f1 k (by omega)
      obtain ⟨g2, rfl, _, _, y0, y1, y2, y3, y4⟩ := f2 k (by omega)
      have hk0 : (0 : Int) ≤ (k : Int) := by omega
      clear f1 f2
      generalize l[k].id = t0 at *
      generalize l[k].client = t1 at *
      generalize l[k].gen = t2 at *
      generalize l[k].due = t3 at *
      generalize l[k].cron = t4 at *
      go_wp2_with fail
      go_quiet (fail)
      go_wp2_with fail
      exact ⟨⟨k + 1, by go_num, by omega, below_dN hb.out nq, r1.out.keep (below_dN (Below.refl _ _) nq), r2.out.keep (below_dN (Below.refl _ _) nq)⟩, by simp [intOf]; omega⟩
    · go_wp2_with fail
      go_ret
      exact ⟨rfl, hb.out⟩

set_option maxHeartbeats 2000000 in
/-- The last request of one. -/
theorem slast_any {w : World} {b : Nat} {s : St} {x : Px} {c : Nat} (h : SS w b s x c) (id : Int) (hid : i64 id) :
    Calls Tryz.prog 21 #[.pointer (some ⟨b, 0, none⟩), .int .i64 id] w fun e w' => e = .returned (.tuple #[.int .i64 (valK s.K id).req, rpV (valK s.K id).rp, .bool (hasK s.K id)]) ∧ Below w.heap.size w w' := by
  have kA : Below w.heap.size w (w.alloc (.cells #[.int .i64 0, .int .i64 0, .int .i64 0] 34)) := (Below.refl _ _).alloc (Nat.le_refl _) _
  have c4 := (h.sv.below kA).c4
  have hlk := h.sv.lookK h.kp hid (W := w.alloc (.cells #[.int .i64 0, .int .i64 0, .int .i64 0] 34)) (alloc_old (h.sv.lt x.lb (by simp [own])).1)
  clear h hid
  generalize valK s.K id = k at *
  generalize hasK s.K id = q at *
  have k2 : Hid (Below w.heap.size w ((w.alloc (.cells #[.int .i64 0, .int .i64 0, .int .i64 0] 34)).alloc (.cells #[.int .i64 k.req, .int .i64 k.rp.err, .int .i64 k.rp.gen, .int .i64 k.rp.due] 90))) := kA.alloc kA.size _
  go_enter Tryz.func21, Tryz.ntmps21
  go_wp2_with fail
  go_region
  go_wp2_with fail
  refine bodyPost_ret (v := .tuple #[.int .i64 k.req, rpV k.rp, .bool q]) ?_ rfl ?_
  · rw [results_tmp_cell_tmp rfl]
    go_simp
    try exact ⟨rfl, rfl, rfl⟩
  · exact ⟨rfl, (((Below.refl _ _).alloc (Nat.le_refl _) _).alloc (by simp) _).drew⟩
theorem Rn.last {w0 w : World} {b c : Nat} {s : St} {V : List (Nat × Obj)} (h : Rn w0 w b s c V) (id : Int) (hid : i64 id) : Calls Tryz.prog 21 #[.pointer (some ⟨b, 0, none⟩), .int .i64 id] w fun e w' => e = .returned (.tuple #[.int .i64 (valK s.K id).req, rpV (valK s.K id).rp, .bool (hasK s.K id)]) ∧ Below w.heap.size w w' := by
  obtain ⟨x, h1, h2, h3, h4⟩ := h
  exact slast_any h1 id hid
theorem Rn.gc {w0 w : World} {b c : Nat} {s : St} {V : List (Nat × Obj)} (h : Rn w0 w b s c V) : s.gens ≤ c := by
  obtain ⟨x, h1, h2, h3, h4⟩ := h
  exact h1.sv.gc
/-- A block that a call made is the caller's own from then on. -/
theorem Rn.gain {w0 w w' : World} {b c : Nat} {s : St} {V : List (Nat × Obj)} (h : Rn w0 w b s c V) (k : Below w.heap.size w w') {g : Nat} {o : Obj} (hg : w.heap.size ≤ g) (ho : w'.heap[g]? = some o) : Rn w0 w' b s c ((g, o) :: V) := by
  obtain ⟨x, h1, h2, h3, h4⟩ := h
  refine ⟨x, h1.below k, h2, h3.trans (k.mono h3.size), fun p hp => ?_⟩
  rcases List.mem_cons.1 hp with rfl | hp
  · exact ⟨ho, fun e => by have := (h1.sv.lt _ e).1; simp only at this; omega⟩
  · have h5 := (h4 p hp).1
    exact ⟨(k.block _ (Array.getElem?_eq_some_iff.1 h5).1).trans h5, (h4 p hp).2⟩
/-- .. and so is a row of timers. -/
theorem Rn.row {w0 w w' : World} {b c : Nat} {s : St} {V : List (Nat × Obj)} (h : Rn w0 w b s c V) (k : Below w.heap.size w w') {v : Value} {l : List Tm} (T : Tms w.heap.size w' v l) :
    ∃ R : List (Nat × Obj), Rn w0 w' b s c (R ++ V) ∧ ∀ W : World, (∀ p ∈ R, W.heap[p.1]? = some p.2) → Tms w.heap.size W v l := by
  cases hv : v.ownBlock with
  | none => exact ⟨[], h.below k, fun W _ => T.same fun g hg => by rw [hv] at hg; cases hg⟩
  | some g =>
    obtain ⟨cur, hc⟩ := row_at T hv
    refine ⟨[(g, .cells cur 37)], h.gain k (World.ownsRow.lt T g hv).1 hc, fun W hW => T.same fun g' hg => ?_⟩
    rw [hv] at hg
    injection hg with hg
    subst hg
    exact (hW _ (List.mem_singleton.2 rfl)).trans hc.symm
end Go.Proofs.YtiidhcpflplpiaaGreatDoor

set_option linter.unusedVariables false
namespace Go.Proofs.YtiidhcpflplpiaaGreatDoor.stateRoom
open Go.ChangeShapes Go.WideShapes Go.ChangeAt Go.RowKit Crn Nxt Ste
open Go.ChangeMaps (open_string shut_string)

theorem top_lt8 {w : World} (tb : Tab w) (nt : NTab w) : topTab < w.heap.size := by
  have h1 := tb.size
  have h2 := nt.size
  unfold topTab
  omega
set_option maxRecDepth 100000 in
set_option maxHeartbeats 100000000 in
theorem walk (timers : Int) (ht : i64 timers) (a : Option Addr) (n cap : Nat) (f : Nat → OpN) (w : World) (tb : Tab w) (nt : NTab w) (hf : Ops w a n f) (hn : n ≤ 9223372036854775807) :
    Calls Tryz.prog 7 #[.int .i64 timers, .slice a n cap] w fun e w' => e = .returned (.bool true) ∧ Below w.heap.size w w' := by
  have cw := Lib.hid (fun W (h : Below w.heap.size w W) => awake_any W (tb.below h) (nt.below h))
  have cf := Lib.hid (fun W (h : Below w.heap.size w W) => few_any W a n cap f (hf.keep h) hn)
  have hpos : topTab < w.heap.size := top_lt8 tb nt
  have cN := Lib.hid (fun W (h : Below w.heap.size w W) => new_run h hpos timers ht)
  have cA := Lib.hid (fun W b s c V (h : Rn w W b s c V) (hc : c ≤ 900000) o (ho : OpOk o) => h.apply tb nt hc o ho)
  have hrm : Hid (((newN timers).room : Int) = min (max timers 1) 16) := by show ((min (max timers 1) 16).toNat : Int) = _; omega
  replace hf := Lib.hid hf
  clear tb nt hn hpos
  go_enter Tryz.func7, Tryz.ntmps7
  go_wp2_with fail
  refine (cw.out _ (Below.refl _ _)).mono ?_
  rintro e w1 ⟨rfl, k1⟩
  replace k1 := Lib.hid k1
  go_wp2_with fail
  refine (cf.out _ k1.out).mono ?_
  rintro e w2 ⟨⟨r, rfl, hr⟩, hw2⟩
  subst hw2
  cases r
  · clear hr
    go_wp2_with fail
    refine (cw.out _ k1.out).mono ?_
    rintro e w3 ⟨rfl, k3⟩
    go_wp2_with fail
    go_ret
    exact ⟨rfl, k1.out.trans (k3.mono k1.out.size)⟩
  · have hF := Lib.hid (hr rfl)
    clear hr cf cw
    go_wp2_with fail
    refine (cN.out _ k1.out).mono ?_
    rintro e w3 ⟨rfl, R3, k3⟩
    replace R3 := Lib.hid R3
    clear k1 k3 cN
    generalize w2.heap.size + 3 = b at *
    go_wp2_with fail
    go_loopw [6, 26] (fun g v wr => ∃ (k : Nat) (gen : Int), v = .int .i64 k ∧ g = .int .i64 gen ∧ (k : Int) ≤ n ∧ Hid (∃ s, Rn w wr b s k [] ∧ s.room = (newN timers).room)) (fun _ v _ => ((n : Int) - intOf v).toNat)
    case atStart => exact ⟨0, 0, rfl, rfl, by omega, ⟨_, R3.out, rfl⟩⟩
    case round =>
      obtain ⟨k, gen, rfl, rfl, hk, hI⟩ := hrel
      obtain ⟨s, R, hroom⟩ := hI.out
      clear R3 hI
      by_cases hlt : (k : Int) < n
      · obtain ⟨bo, off, rfl, z, c0, c1, c2, c3, c4, c5, c6, c7, c8, c9⟩ := (hf.out.keep R.bel).at k (by omega)
        have hok := Lib.hid (hF.out.ok (i := k) (by omega) z)
        have hk3 : Hid (k ≤ 300 ∧ n ≤ 300) := ⟨by have := hF.out.1; omega, hF.out.1⟩
        have hgc := Lib.hid R.gc
        have hOk := Lib.hid R.ok
        have hroom := Lib.hid hroom
        have hwk : IntKind.i64.wrap ((k : Int) + 1) = (k : Int) + 1 := IntWalk.i64_in _ (by have := hk3.out; omega)
        clear z
        generalize f k = o at *
        have R1 := Lib.hid (R.alloc (opO o))
        clear R
        go_wp2_with fail
        generalize wr.heap.size = q at *
        refine (cA.out _ _ _ _ _ R1.out (by have := hk3.out; omega) o hok.out).mono ?_
        rintro e w4 ⟨rfl, R4⟩
        have hap := Lib.hid (apply_ok hOk.out hok.out (by have := hgc.out; have := hk3.out; omega))
        generalize (applyN s o).1 = s4 at *
        generalize (applyN s o).2 = rp at *
        obtain ⟨rerr, rgen, rdue⟩ := rp
        have R5 := Lib.hid (R4.alloc (.cells #[.int .i64 rerr, .int .i64 rgen, .int .i64 rdue] 34))
        clear R1 c0 c1 c2 c3 c4 c5 c6 c7 c8 c9
        unfold rpV at *
        go_wp2_with fail
        generalize w4.heap.size = q2 at *
        refine R5.out.list.mono ?_
        rintro e w5 ⟨v5, rfl, T5, k5⟩
        obtain ⟨p5, cp5, rfl, -⟩ := T5.form
        have R6 := Lib.hid (R5.out.below k5)
        have hT : Hid ((s4.T.length : Int) ≤ min (max timers 1) 16) := by
          show (s4.T.length : Int) ≤ min (max timers 1) 16
          have h1 := hap.out.1.full
          have h2 := hap.out.2.2.1
          have h3 := hroom.out
          have h4 := hrm.out
          omega
        have hd1 : decide (min (max timers 1) 16 < (s4.T.length : Int)) = false := by have := hT.out; simp; omega
        clear T5 k5 R5 R4
        go_wp2_with fail
        refine R6.out.clients.mono ?_
        rintro e w6 ⟨v6, rfl, N6, k6⟩
        obtain ⟨p6, cp6, rfl, -⟩ := nums_look N6
        have R7 := Lib.hid (R6.out.below k6)
        have hd2 : decide ((3 : Int) < (s4.K.length : Int)) = false := by
          have := hap.out.1.few
          simp
          omega
        clear N6 k6 R6
        go_wp2_with fail
        refine R7.out.list.mono ?_
        rintro e w7 ⟨v7, rfl, T7, k7⟩
        obtain ⟨p7, cp7, rfl, -⟩ := T7.form
        have R8 := Lib.hid (R7.out.below k7)
        replace T7 := Lib.hid T7
        clear k7 R7 hd1 hd2
        generalize w6.heap.size = B7 at *
        have hlen : (s4.T.length : Int) ≤ 1000 := by have := hap.out.1.full; have := hap.out.1.room1; omega
        go_wp2_with fail
        go_loopw [6, 49] (fun g v wq => ∃ (j : Nat) (ge : Int), v = .int .i64 j ∧ g = .int .i64 ge ∧ (j : Int) ≤ s4.T.length ∧ Hid (Rn w wq b s4 (k + 1) [(q2, .cells #[.int .i64 rerr, .int .i64 rgen, .int .i64 rdue] 34), (q, opO o)]) ∧ Hid (Tms B7 wq (.slice p7 s4.T.length cp7) s4.T)) (fun _ v _ => ((s4.T.length : Int) - intOf v).toNat)
        case atStart => exact ⟨0, gen, rfl, rfl, by omega, R8, T7⟩
        case round =>
          obtain ⟨j, ge, rfl, rfl, hj, R, Tq⟩ := hrel
          clear R8 T7
          by_cases hlt2 : (j : Int) < s4.T.length
          · as_aux_lemma =>
            obtain ⟨pp, cc, e7, fT⟩ := Tq.out.form
            injection e7 with e7 _ e8
            subst e7; subst e8
            obtain ⟨g7, rfl, -, hg7, x0, x1, x2, x3, x4⟩ := fT j (by omega)
            have hj0 : (0 : Int) ≤ (j : Int) := by omega
            have tok := Lib.hid (hap.out.1.tm (s4.T[j]'(by omega)) (List.getElem_mem _))
            have R9 := Lib.hid (R.out.alloc (.cells #[.int .i64 (s4.T[j]'(by omega)).id, .int .i64 (s4.T[j]'(by omega)).client, .int .i64 (s4.T[j]'(by omega)).gen, .int .i64 (s4.T[j]'(by omega)).due, .string (s4.T[j]'(by omega)).cron] 37))
            have T9 := Lib.hid (Tq.out.keep ((Below.refl wr.heap.size wr).alloc (Nat.le_refl _) (.cells #[.int .i64 (s4.T[j]'(by omega)).id, .int .i64 (s4.T[j]'(by omega)).client, .int .i64 (s4.T[j]'(by omega)).gen, .int .i64 (s4.T[j]'(by omega)).due, .string (s4.T[j]'(by omega)).cron] 37)))
            have hpos2 : Hid (0 < (s4.T[j]'(by omega)).gen) := by have := tok.out.gen0; show 0 < (s4.T[j]'(by omega)).gen; omega
            obtain ⟨z0, z1, z2, z3, z4, z5, z6, z7, z8, z9⟩ := op_cells (R9.out.at (.tail _ (.tail _ (.head _))))
            obtain ⟨y0, y1, y2, -⟩ := R9.out.cells3 (.tail _ (.head _))
            clear fT tok z1 z2 z4 z5 z6 z7 z8 z9 y2
            generalize (s4.T[j]'(by omega)).id = t0 at *
            generalize (s4.T[j]'(by omega)).client = t1 at *
            generalize (s4.T[j]'(by omega)).gen = t2 at *
            generalize (s4.T[j]'(by omega)).due = t3 at *
            generalize (s4.T[j]'(by omega)).cron = t4 at *
            have R9' : Hid (Rn w (wr.alloc (.cells #[.int .i64 t0, .int .i64 t1, .int .i64 t2, .int .i64 t3, .string t4] 37)) b s4 (k + 1) [(q2, .cells #[.int .i64 rerr, .int .i64 rgen, .int .i64 rdue] 34), (q, opO o)]) := R9.out.less fun p hp => .tail _ hp
            clear R9
            generalize hb1 : (t0 == o.id) = c1
            generalize hb2 : (o.kind == 1) = c2
            generalize hb3 : (rerr == 0) = c3
            generalize hb4 : (t2 == rgen) = c4
            have tt : Hid True := trivial
            cases c1
            · go_wp2_with fail
              exact ⟨⟨j + 1, ge, by go_num, rfl, by omega, R9', T9⟩, by simp [intOf]; omega⟩
            cases c2
            · go_wp2_with fail
              exact ⟨⟨j + 1, ge, by go_num, rfl, by omega, R9', T9⟩, by simp [intOf]; omega⟩
            cases c3
            · go_wp2_with fail
              exact ⟨⟨j + 1, ge, by go_num, rfl, by omega, R9', T9⟩, by simp [intOf]; omega⟩
            cases c4
            · go_wp2_with fail
              exact ⟨⟨j + 1, ge, by go_num, rfl, by omega, R9', T9⟩, by simp [intOf]; omega⟩
            · by_cases hge : t2 < ge
              · have hp2 : decide (0 < t2) = true := by have := hpos2.out; simpa using this
                go_wp2_with fail
                go_ret
                exact ⟨rfl, R9'.out.bel⟩
              · have hp2 : decide (t2 < ge) = false := by simpa using hge
                go_wp2_with fail
                exact ⟨⟨j + 1, max ge t2, by go_num, rfl, by omega, R9', T9⟩, by simp [intOf]; omega⟩
          · go_wp2_with fail
            refine R.out.list.mono ?_
            rintro e w8 ⟨v8, rfl, T8, k8⟩
            obtain ⟨p8, cp8, rfl, -⟩ := T8.form
            have R10 := Lib.hid (R.out.below k8)
            replace T8 := Lib.hid T8
            clear k8 R Tq hlt2
            generalize wr.heap.size = B8 at *
            go_wp2_with fail
            go_loopw [90] (fun v wq => ∃ (j : Nat), v = .int .i64 j ∧ (j : Int) ≤ s4.T.length ∧ Hid (Rn w wq b s4 (k + 1) [(q2, .cells #[.int .i64 rerr, .int .i64 rgen, .int .i64 rdue] 34), (q, opO o)]) ∧ Hid (Tms B8 wq (.slice p8 s4.T.length cp8) s4.T)) (fun v _ => ((s4.T.length : Int) - intOf v).toNat)
            case atStart => exact ⟨0, rfl, by omega, R10, T8⟩
            case round =>
              obtain ⟨j, rfl, hj, R, Tq⟩ := hrel
              clear R10 T8
              by_cases hlt2 : (j : Int) < s4.T.length
              · obtain ⟨pp, cc, e7, fT⟩ := Tq.out.form
                injection e7 with e7 _ e8
                subst e7; subst e8
                obtain ⟨g7, rfl, -, hg7, x0, x1, x2, x3, x4⟩ := fT j (by omega)
                have hj0 : (0 : Int) ≤ (j : Int) := by omega
                have tok := Lib.hid (hap.out.1.tm (s4.T[j]'(by omega)) (List.getElem_mem _))
                have R9 := Lib.hid (R.out.alloc (.cells #[.int .i64 (s4.T[j]'(by omega)).id, .int .i64 (s4.T[j]'(by omega)).client, .int .i64 (s4.T[j]'(by omega)).gen, .int .i64 (s4.T[j]'(by omega)).due, .string (s4.T[j]'(by omega)).cron] 37))
                have T9 := Lib.hid (Tq.out.keep ((Below.refl wr.heap.size wr).alloc (Nat.le_refl _) (.cells #[.int .i64 (s4.T[j]'(by omega)).id, .int .i64 (s4.T[j]'(by omega)).client, .int .i64 (s4.T[j]'(by omega)).gen, .int .i64 (s4.T[j]'(by omega)).due, .string (s4.T[j]'(by omega)).cron] 37)))
                have hup : Hid (∀ h : 0 < j, (s4.T[j - 1]'(by omega)).id < (s4.T[j]'(by omega)).id) := fun h => List.pairwise_iff_getElem.1 hap.out.1.up (j - 1) j (by omega) (by omega) (by omega)
                have hg1 : Hid (¬ (s4.T[j]'(by omega)).gen < 1) := by have := tok.out.gen0; show ¬ _; omega
                have hg2 : Hid (¬ (n : Int) < (s4.T[j]'(by omega)).gen) := by
                  have h1 := tok.out.gen1
                  have h2 := R.out.gc
                  show ¬ _
                  omega
                clear fT tok
                generalize ht0 : (s4.T[j]'(by omega)).id = t0 at *
                generalize (s4.T[j]'(by omega)).client = t1 at *
                generalize (s4.T[j]'(by omega)).gen = t2 at *
                generalize (s4.T[j]'(by omega)).due = t3 at *
                generalize (s4.T[j]'(by omega)).cron = t4 at *
                have g3 := R9.out.at (.head _)
                have m0 := cell_in g3 0
                have m2 := cell_in g3 2
                have hq3 : wr.heap.size < (wr.alloc (.cells #[.int .i64 t0, .int .i64 t1, .int .i64 t2, .int .i64 t3, .string t4] 37)).heap.size := by simp
                have R9' : Hid (Rn w (wr.alloc (.cells #[.int .i64 t0, .int .i64 t1, .int .i64 t2, .int .i64 t3, .string t4] 37)) b s4 (k + 1) [(q2, .cells #[.int .i64 rerr, .int .i64 rgen, .int .i64 rdue] 34), (q, opO o)]) := R9.out.less fun p hp => .tail _ hp
                have hd1 : decide (t2 < 1) = false := by have := hg1.out; simpa using this
                have hd2 : decide ((n : Int) < t2) = false := by have := hg2.out; simpa using this
                go_upto_region 22 with fail
                clear R9 g3 x0 x1 x2 x3 x4
                generalize wr.alloc (.cells #[.int .i64 t0, .int .i64 t1, .int .i64 t2, .int .i64 t3, .string t4] 37) = w9 at *
                generalize wr.heap.size = q3 at *
                by_cases hj1 : j = 0
                · as_aux_lemma =>
                  have hd3 : decide ((0 : Int) < (j : Int)) = false := by simp [hj1]
                  have hd3' : decide (0 < j) = false := by simp [hj1]
                  replace hj1 := Lib.hid hj1
                  go_quiet (fail)
                  go_wp2_with fail
                  exact ⟨⟨j + 1, by go_num, by omega, R9'.out.drewN nq, T9.out.keep (below_dN (Below.refl _ _) nq)⟩, by simp [intOf]; omega⟩
                · as_aux_lemma =>
                  obtain ⟨m, hm⟩ : ∃ m, j = m + 1 := ⟨j - 1, by omega⟩
                  have hd3 : decide ((0 : Int) < (j : Int)) = true := by simp; omega
                  have hd3' : decide (0 < j) = true := by simp; omega
                  have hw2 : IntKind.i64.wrap ((j : Int) - 1) = (m : Int) := by rw [IntWalk.i64_in _ (by omega)]; omega
                  have hm0 : (0 : Int) ≤ (m : Int) := by omega
                  have hm1 : (m : Int) < (s4.T.length : Int) := by omega
                  have hm1' : m < s4.T.length := by omega
                  have hm1d : decide (m < s4.T.length) = true := by simp; omega
                  have hd4 : decide (t0 ≤ (s4.T[m]'(by omega)).id) = false := by
                    have h1 := hup.out (by omega)
                    have h2 : s4.T[j - 1]'(by omega) = s4.T[m]'(by omega) := by congr 1; omega
                    rw [h2] at h1
                    simp; omega
                  have R9d := Lib.hid (R9'.out.drewN 1)
                  change Hid (Rn w w9.drew b _ _ _) at R9d
                  have T9d := Lib.hid (T9.out.keep (below_dN (Below.refl _ _) 1))
                  change Hid (Tms B8 w9.drew _ _) at T9d
                  replace hj1 := Lib.hid hj1
                  replace hm := Lib.hid hm
                  have m0d : w9.drew.cell? ⟨q3, 0, none⟩ = some (.int .i64 t0) := m0
                  have m2d : w9.drew.cell? ⟨q3, 2, none⟩ = some (.int .i64 t2) := m2
                  refine wp_region_held_drew (S := fun w' => w'.cell? ⟨q3, 0, none⟩ = some (.int .i64 t0) ∧ w'.cell? ⟨q3, 2, none⟩ = some (.int .i64 t2)) (by kernel_rfl) ⟨m0, m2⟩ (fun hHeld => ?_)
                  refine wpAnyH_take (i := 0) (oi := { dst := some 95, op := Op.move (Operand.tmp 12), type := 3, pos := "law.go:148", after := #[], guard := none }) (v := ?v0) rfl (by kernel_rfl) (by kernel_rfl) (by kernel_rfl) (fun _ _ _ h => h) (Or.inl ⟨by rfl, ?hy0⟩) (by assumption) ?rest0
                  case hy0 => (intro w hSw; (try dsimp only at hSw); go_simp; try with_reducible rfl)
                  try simp only [Act.put, List.setIfInBounds_toArray, List.set_cons_zero, List.set_cons_succ]
                  refine wpAnyH_take (i := 1) (oi := { dst := some 96, op := Op.binOp BinOp.gtr 3 (Operand.tmp 95) (Operand.const (Value.int IntKind.i64 0)) 3, type := 4, pos := "law.go:148", after := #[{ on := 0, ground := Ground.data }], guard := none }) (v := ?v1) rfl (by kernel_rfl) (by kernel_rfl) (by kernel_rfl) (fun _ _ _ h => h) (Or.inl ⟨by rfl, ?hy1⟩) (by assumption) ?rest1
                  case hy1 => (intro w hSw; (try dsimp only at hSw); go_simp; try with_reducible rfl)
                  try simp only [Act.put, List.setIfInBounds_toArray, List.set_cons_zero, List.set_cons_succ]
                  refine wpAnyH_take (i := 2) (oi := { dst := some 97, op := Op.move (Operand.tmp 96), type := 4, pos := "law.go:148", after := #[{ on := 1, ground := Ground.data }], guard := none }) (v := ?v2) rfl (by kernel_rfl) (by kernel_rfl) (by kernel_rfl) (fun _ _ _ h => h) (Or.inl ⟨by rfl, ?hy2⟩) (by assumption) ?rest2
                  case hy2 => (intro w hSw; (try dsimp only at hSw); go_simp; try with_reducible rfl)
                  try simp only [Act.put, List.setIfInBounds_toArray, List.set_cons_zero, List.set_cons_succ]
                  refine wpAnyH_take (i := 3) (oi := { dst := some 98, op := Op.move (Operand.tmp 5), type := 25, pos := "law.go:148", after := #[{ on := 2, ground := Ground.guard }], guard := some (2, true) }) (v := ?v3) rfl (by kernel_rfl) (by kernel_rfl) (by kernel_rfl) (fun _ _ _ h => h) (Or.inl ⟨by rfl, ?hy3⟩) (by assumption) ?rest3
                  case hy3 => (intro w hSw; (try dsimp only at hSw); go_simp; try with_reducible rfl)
                  try simp only [Act.put, List.setIfInBounds_toArray, List.set_cons_zero, List.set_cons_succ]
                  refine wpAnyH_take (i := 5) (oi := { dst := some 100, op := Op.move (Operand.tmp 12), type := 3, pos := "law.go:148", after := #[{ on := 2, ground := Ground.guard }], guard := some (2, true) }) (v := ?v5) rfl (by kernel_rfl) (by kernel_rfl) (by kernel_rfl) (fun _ _ _ h => h) (Or.inl ⟨by rfl, ?hy5⟩) (by assumption) ?rest5
                  case hy5 => (intro w hSw; (try dsimp only at hSw); go_simp; try with_reducible rfl)
                  try simp only [Act.put, List.setIfInBounds_toArray, List.set_cons_zero, List.set_cons_succ]
                  refine wpAnyH_take (i := 6) (oi := { dst := some 101, op := Op.binOp BinOp.sub 3 (Operand.tmp 100) (Operand.const (Value.int IntKind.i64 1)) 3, type := 3, pos := "law.go:148", after := #[{ on := 5, ground := Ground.data }, { on := 2, ground := Ground.guard }], guard := some (2, true) }) (v := ?v6) rfl (by kernel_rfl) (by kernel_rfl) (by kernel_rfl) (fun _ _ _ h => h) (Or.inl ⟨by rfl, ?hy6⟩) (by assumption) ?rest6
                  case hy6 => (intro w hSw; (try dsimp only at hSw); go_simp; try with_reducible rfl)
                  try simp only [Act.put, List.setIfInBounds_toArray, List.set_cons_zero, List.set_cons_succ]
                  refine wpAnyH_take (i := 10) (oi := { dst := some 105, op := Op.fieldAddr 37 (Operand.tmp 13) 0, type := 0, pos := "law.go:148", after := #[{ on := 2, ground := Ground.guard }], guard := some (2, true) }) (v := ?v10) rfl (by kernel_rfl) (by kernel_rfl) (by kernel_rfl) (fun _ _ _ h => h) (Or.inl ⟨by rfl, ?hy10⟩) (by assumption) ?rest10
                  case hy10 => (intro w hSw; (try dsimp only at hSw); go_simp; try with_reducible rfl)
                  try simp only [Act.put, List.setIfInBounds_toArray, List.set_cons_zero, List.set_cons_succ]
                  refine wpAnyH_take (i := 11) (oi := { dst := some 106, op := Op.load 3 (Operand.tmp 105), type := 3, pos := "law.go:148", after := #[{ on := 10, ground := Ground.data }, { on := 2, ground := Ground.guard }], guard := some (2, true) }) (v := ?v11) rfl (by kernel_rfl) (by kernel_rfl) (by kernel_rfl) (fun _ _ _ h => h) (Or.inl ⟨by rfl, ?hy11⟩) (by assumption) ?rest11
                  case hy11 => (intro w hSw; (try dsimp only at hSw); go_simp; try with_reducible rfl)
                  try simp only [Act.put, List.setIfInBounds_toArray, List.set_cons_zero, List.set_cons_succ]
                  refine wpAnyH_ready (rs := [4]) (by kernel_rfl) (by simp) ?_
                  refine AllReadyH.cons (o := { dst := some 99, op := Op.call { callee := Callee.value (Operand.func 20), args := #[Operand.tmp 98], argTypes := #[25] }, type := 43, pos := "law.go:148", after := #[{ on := 3, ground := Ground.data }, { on := 2, ground := Ground.chain }, { on := 2, ground := Ground.guard }], guard := some (2, true) }) rfl (fun K hK => ?_) ?more4
                  case more4 => exact AllReadyH.nil
                  go_simp
                  go_at_call 20
                  refine R9d.out.list.mono ?_
                  rintro e w10 ⟨v10, rfl, T10, k10⟩
                  obtain ⟨p10, cp10, rfl, fT10⟩ := T10.form
                  obtain ⟨g10, rfl, -, -, u0, -⟩ := fT10 m (by omega)
                  have m0' := (k10.cell (p := ⟨q3, 0, none⟩) hq3).trans m0
                  have m2' := (k10.cell (p := ⟨q3, 2, none⟩) hq3).trans m2
                  have R10 := Lib.hid (R9d.out.below k10)
                  have T11 := Lib.hid (T9d.out.keep k10)
                  clear T10 k10 fT10
                  refine hK.out _ _ ⟨m0', m2'⟩ (fun hHeld => ?_)
                  clear hK K
                  try simp only [Act.put, List.setIfInBounds_toArray, List.set_cons_zero, List.set_cons_succ]
                  refine wpAnyH_take (i := 7) (oi := { dst := some 102, op := Op.indexAddr 43 (Operand.tmp 99) (Operand.tmp 101), type := 0, pos := "law.go:148", after := #[{ on := 4, ground := Ground.data }, { on := 6, ground := Ground.data }, { on := 2, ground := Ground.guard }], guard := some (2, true) }) (v := ?v7) rfl (by kernel_rfl) (by kernel_rfl) (by kernel_rfl) (fun _ _ _ h => h) (Or.inl ⟨by rfl, ?hy7⟩) (by assumption) ?rest7
                  case hy7 => (intro w hSw; (try dsimp only at hSw); go_simp; try with_reducible rfl)
                  try simp only [Act.put, List.setIfInBounds_toArray, List.set_cons_zero, List.set_cons_succ]
                  refine wpAnyH_take (i := 8) (oi := { dst := some 103, op := Op.fieldAddr 37 (Operand.tmp 102) 0, type := 0, pos := "law.go:148", after := #[{ on := 7, ground := Ground.data }, { on := 2, ground := Ground.guard }], guard := some (2, true) }) (v := ?v8) rfl (by kernel_rfl) (by kernel_rfl) (by kernel_rfl) (fun _ _ _ h => h) (Or.inl ⟨by rfl, ?hy8⟩) (by assumption) ?rest8
                  case hy8 => (intro w hSw; (try dsimp only at hSw); go_simp; try with_reducible rfl)
                  try simp only [Act.put, List.setIfInBounds_toArray, List.set_cons_zero, List.set_cons_succ]
                  refine wpAnyH_ready (rs := [9]) (by kernel_rfl) (by simp) ?_
                  refine AllReadyH.cons (o := { dst := some 104, op := Op.load 3 (Operand.tmp 103), type := 3, pos := "law.go:148", after := #[{ on := 8, ground := Ground.data }, { on := 2, ground := Ground.guard }], guard := some (2, true) }) rfl (fun K hK => ?_) ?more9
                  case more9 => exact AllReadyH.nil
                  go_wp2_with fail
                  refine hK.out _ _ ⟨m0', m2'⟩ (fun hHeld => ?_)
                  clear hK K
                  try simp only [Act.put, List.setIfInBounds_toArray, List.set_cons_zero, List.set_cons_succ]
                  refine wpAnyH_take (i := 12) (oi := { dst := some 107, op := Op.binOp BinOp.geq 3 (Operand.tmp 104) (Operand.tmp 106) 3, type := 4, pos := "law.go:148", after := #[{ on := 9, ground := Ground.data }, { on := 11, ground := Ground.data }, { on := 2, ground := Ground.guard }], guard := some (2, true) }) (v := ?v12) rfl (by kernel_rfl) (by kernel_rfl) (by kernel_rfl) (fun _ _ _ h => h) (Or.inl ⟨by rfl, ?hy12⟩) (by assumption) ?rest12
                  case hy12 => (intro w hSw; (try dsimp only at hSw); go_simp; try with_reducible rfl)
                  try simp only [Act.put, List.setIfInBounds_toArray, List.set_cons_zero, List.set_cons_succ]
                  refine wpAnyH_take (i := 13) (oi := { dst := some 108, op := Op.pick (Operand.tmp 97) (Operand.tmp 107) (Operand.const (Value.bool false)), type := 4, pos := "law.go:148", after := #[{ on := 2, ground := Ground.data }, { on := 12, ground := Ground.data }], guard := none }) (v := ?v13) rfl (by kernel_rfl) (by kernel_rfl) (by kernel_rfl) (fun _ _ _ h => h) (Or.inl ⟨by rfl, ?hy13⟩) (by assumption) ?rest13
                  case hy13 => (intro w hSw; (try dsimp only at hSw); go_simp; try with_reducible rfl)
                  try simp only [Act.put, List.setIfInBounds_toArray, List.set_cons_zero, List.set_cons_succ]
                  refine wpAnyH_take (i := 14) (oi := { dst := some 109, op := Op.move (Operand.tmp 108), type := 4, pos := "law.go:148", after := #[{ on := 13, ground := Ground.data }, { on := 4, ground := Ground.chain }], guard := none }) (v := ?v14) rfl (by kernel_rfl) (by kernel_rfl) (by kernel_rfl) (fun _ _ _ h => h) (Or.inl ⟨by rfl, ?hy14⟩) (by assumption) ?rest14
                  case hy14 => (intro w hSw; (try dsimp only at hSw); go_simp; try with_reducible rfl)
                  try simp only [Act.put, List.setIfInBounds_toArray, List.set_cons_zero, List.set_cons_succ]
                  refine wpAnyH_take (i := 15) (oi := { dst := some 110, op := Op.fieldAddr 37 (Operand.tmp 13) 2, type := 0, pos := "law.go:148", after := #[{ on := 14, ground := Ground.guard }], guard := some (14, false) }) (v := ?v15) rfl (by kernel_rfl) (by kernel_rfl) (by kernel_rfl) (fun _ _ _ h => h) (Or.inl ⟨by rfl, ?hy15⟩) (by assumption) ?rest15
                  case hy15 => (intro w hSw; (try dsimp only at hSw); go_simp; try with_reducible rfl)
                  try simp only [Act.put, List.setIfInBounds_toArray, List.set_cons_zero, List.set_cons_succ]
                  refine wpAnyH_take (i := 16) (oi := { dst := some 111, op := Op.load 3 (Operand.tmp 110), type := 3, pos := "law.go:148", after := #[{ on := 15, ground := Ground.data }, { on := 14, ground := Ground.guard }], guard := some (14, false) }) (v := ?v16) rfl (by kernel_rfl) (by kernel_rfl) (by kernel_rfl) (fun _ _ _ h => h) (Or.inl ⟨by rfl, ?hy16⟩) (by assumption) ?rest16
                  case hy16 => (intro w hSw; (try dsimp only at hSw); go_simp; try with_reducible rfl)
                  try simp only [Act.put, List.setIfInBounds_toArray, List.set_cons_zero, List.set_cons_succ]
                  refine wpAnyH_take (i := 17) (oi := { dst := some 112, op := Op.binOp BinOp.lss 3 (Operand.tmp 111) (Operand.const (Value.int IntKind.i64 1)) 3, type := 4, pos := "law.go:148", after := #[{ on := 16, ground := Ground.data }, { on := 14, ground := Ground.guard }], guard := some (14, false) }) (v := ?v17) rfl (by kernel_rfl) (by kernel_rfl) (by kernel_rfl) (fun _ _ _ h => h) (Or.inl ⟨by rfl, ?hy17⟩) (by assumption) ?rest17
                  case hy17 => (intro w hSw; (try dsimp only at hSw); go_simp; try with_reducible rfl)
                  try simp only [Act.put, List.setIfInBounds_toArray, List.set_cons_zero, List.set_cons_succ]
                  refine wpAnyH_take (i := 18) (oi := { dst := some 113, op := Op.pick (Operand.tmp 109) (Operand.const (Value.bool true)) (Operand.tmp 112), type := 4, pos := "law.go:148", after := #[{ on := 14, ground := Ground.data }, { on := 17, ground := Ground.data }], guard := none }) (v := ?v18) rfl (by kernel_rfl) (by kernel_rfl) (by kernel_rfl) (fun _ _ _ h => h) (Or.inl ⟨by rfl, ?hy18⟩) (by assumption) ?rest18
                  case hy18 => (intro w hSw; (try dsimp only at hSw); go_simp; try with_reducible rfl)
                  try simp only [Act.put, List.setIfInBounds_toArray, List.set_cons_zero, List.set_cons_succ]
                  refine wpAnyH_take (i := 19) (oi := { dst := some 114, op := Op.move (Operand.tmp 113), type := 4, pos := "law.go:148", after := #[{ on := 18, ground := Ground.data }, { on := 14, ground := Ground.chain }], guard := none }) (v := ?v19) rfl (by kernel_rfl) (by kernel_rfl) (by kernel_rfl) (fun _ _ _ h => h) (Or.inl ⟨by rfl, ?hy19⟩) (by assumption) ?rest19
                  case hy19 => (intro w hSw; (try dsimp only at hSw); go_simp; try with_reducible rfl)
                  try simp only [Act.put, List.setIfInBounds_toArray, List.set_cons_zero, List.set_cons_succ]
                  refine wpAnyH_take (i := 20) (oi := { dst := some 115, op := Op.fieldAddr 37 (Operand.tmp 13) 2, type := 0, pos := "law.go:148", after := #[{ on := 19, ground := Ground.guard }], guard := some (19, false) }) (v := ?v20) rfl (by kernel_rfl) (by kernel_rfl) (by kernel_rfl) (fun _ _ _ h => h) (Or.inl ⟨by rfl, ?hy20⟩) (by assumption) ?rest20
                  case hy20 => (intro w hSw; (try dsimp only at hSw); go_simp; try with_reducible rfl)
                  try simp only [Act.put, List.setIfInBounds_toArray, List.set_cons_zero, List.set_cons_succ]
                  refine wpAnyH_take (i := 21) (oi := { dst := some 116, op := Op.load 3 (Operand.tmp 115), type := 3, pos := "law.go:148", after := #[{ on := 20, ground := Ground.data }, { on := 19, ground := Ground.guard }], guard := some (19, false) }) (v := ?v21) rfl (by kernel_rfl) (by kernel_rfl) (by kernel_rfl) (fun _ _ _ h => h) (Or.inl ⟨by rfl, ?hy21⟩) (by assumption) ?rest21
                  case hy21 => (intro w hSw; (try dsimp only at hSw); go_simp; try with_reducible rfl)
                  try simp only [Act.put, List.setIfInBounds_toArray, List.set_cons_zero, List.set_cons_succ]
                  refine wpAnyH_take (i := 22) (oi := { dst := some 117, op := Op.move (Operand.tmp 1), type := 22, pos := "law.go:148", after := #[{ on := 19, ground := Ground.guard }], guard := some (19, false) }) (v := ?v22) rfl (by kernel_rfl) (by kernel_rfl) (by kernel_rfl) (fun _ _ _ h => h) (Or.inl ⟨by rfl, ?hy22⟩) (by assumption) ?rest22
                  case hy22 => (intro w hSw; (try dsimp only at hSw); go_simp; try with_reducible rfl)
                  try simp only [Act.put, List.setIfInBounds_toArray, List.set_cons_zero, List.set_cons_succ]
                  refine wpAnyH_take (i := 23) (oi := { dst := some 118, op := Op.call { callee := Callee.builtin Builtin.len, args := #[Operand.tmp 117], argTypes := #[22] }, type := 3, pos := "law.go:148", after := #[{ on := 22, ground := Ground.data }, { on := 19, ground := Ground.guard }], guard := some (19, false) }) (v := ?v23) rfl (by kernel_rfl) (by kernel_rfl) (by kernel_rfl) (fun _ _ _ h => h) (Or.inl ⟨by rfl, ?hy23⟩) (by assumption) ?rest23
                  case hy23 => (intro w hSw; (try dsimp only at hSw); go_simp; try with_reducible rfl)
                  try simp only [Act.put, List.setIfInBounds_toArray, List.set_cons_zero, List.set_cons_succ]
                  refine wpAnyH_take (i := 24) (oi := { dst := some 119, op := Op.binOp BinOp.gtr 3 (Operand.tmp 116) (Operand.tmp 118) 3, type := 4, pos := "law.go:148", after := #[{ on := 21, ground := Ground.data }, { on := 23, ground := Ground.data }, { on := 19, ground := Ground.guard }], guard := some (19, false) }) (v := ?v24) rfl (by kernel_rfl) (by kernel_rfl) (by kernel_rfl) (fun _ _ _ h => h) (Or.inl ⟨by rfl, ?hy24⟩) (by assumption) ?rest24
                  case hy24 => (intro w hSw; (try dsimp only at hSw); go_simp; try with_reducible rfl)
                  try simp only [Act.put, List.setIfInBounds_toArray, List.set_cons_zero, List.set_cons_succ]
                  refine wpAnyH_take (i := 25) (oi := { dst := some 120, op := Op.pick (Operand.tmp 114) (Operand.const (Value.bool true)) (Operand.tmp 119), type := 4, pos := "law.go:148", after := #[{ on := 19, ground := Ground.data }, { on := 24, ground := Ground.data }], guard := none }) (v := ?v25) rfl (by kernel_rfl) (by kernel_rfl) (by kernel_rfl) (fun _ _ _ h => h) (Or.inl ⟨by rfl, ?hy25⟩) (by assumption) ?rest25
                  case hy25 => (intro w hSw; (try dsimp only at hSw); go_simp; try with_reducible rfl)
                  try simp only [Act.put, List.setIfInBounds_toArray, List.set_cons_zero, List.set_cons_succ]
                  refine wpAnyH_done (by kernel_rfl) ?_ _
                  go_wp2_with fail
                  exact ⟨⟨j + 1, by go_num, by omega, R10, T11⟩, by simp [intOf]; omega⟩
              · go_wp2_with fail
                exact ⟨⟨k + 1, _, by go_num, rfl, by omega, ⟨s4, R.out.less (fun p hp => by simp at hp), hap.out.2.2.1.trans hroom.out⟩⟩, by simp [intOf]; omega⟩
      · go_wp2_with fail
        go_ret
        exact ⟨rfl, R.bel⟩


set_option maxRecDepth 100000 in
theorem contract (H : Type) (enc : TypeId × Value → H) (W : World) (base : Nat) (args : Array Value) (ds gs : List (DataW H)) (before : List MemPlace)
    (hval : ∀ (j : Nat) t v, Tryz.f7.params[j]? = some t → args[j]? = some v → Value.okWide Tryz.prog W .any base t v)
    (hW : DataW.Whole enc Tryz.prog Tryz.f7.params.toList Rows.stateRoomSpec.vars false W args.toList ds gs before) (hL : laidMetH Tryz.prog Rows.stateRoomRow.laid W) (hS : W.ShapedOpen Tryz.prog) :
    Calls Tryz.prog 7 args W fun e W' => ∃ v, e = .returned v ∧ Rows.stateRoomSpec.post enc Tryz.prog Tryz.f7 false true false false W args v W' := by
  have hW' := hW
  obtain ⟨p, q, hA0, hV, rfl, hfz, hnd⟩ := hW
  have hA : DataW.TrodAll enc Tryz.prog W 0 (fun _ => true) true Tryz.f7.params.toList args.toList ds p := hA0
  rw [Tryz.params7] at hA hval
  obtain ⟨v0, vs0, d0, ds0, p0, q0, hargs, rfl, rfl, h0, r0⟩ := trodAll_cons hA
  obtain ⟨v1, vs1, d1, ds1, p1, q1, rfl, rfl, rfl, h1, r1⟩ := trodAll_cons r0
  obtain ⟨rfl, rfl, rfl⟩ := trodAll_nil r1
  obtain rfl : args = #[v0, v1] := by clear hL hS hW' hval; cases args; simp_all
  obtain ⟨rfl, rfl⟩ := trodVars_none hV
  obtain ⟨a0, rfl, rfl, rfl, w0⟩ := open_int Tryz.underlying3 (hval 0 3 v0 rfl rfl) h0
  obtain ⟨b1, len1, cap1, rfl⟩ := okWide_slice Tryz.underlying22 (hval 1 22 v1 rfl rfl)
  have k1 := h1
  have lt1 : ∀ x ∈ p1, x.block < W.heap.size := by obtain ⟨m, hm⟩ := k1; exact DataW.trod_lt m _ _ _ hm
  obtain ⟨f1, tx1, ln1⟩ : ∃ f, Ops W b1 len1 f ∧ len1 ≤ 9223372036854775807 := by
    obtain ⟨fuel, hf⟩ := h1
    exact ops_of hf
  clear hA0
  simp only [List.append_nil] at hW'
  refine (walk a0 (wf_i64 w0) b1 len1 cap1 f1 W (table hL hS) (tables hL hS) tx1 ln1).mono fun e W' ⟨he, hg⟩ => ?_
  subst he
  exact ⟨_, rfl, _, _, _, [], _, [], hW', trodAll_cons_mk (shut_bool Tryz.underlying4 _) trodAll_mk0, trodAll_cons_mk (shut_int Tryz.underlying3 w0) (trodAll_cons_mk (Below.trod laidOut8 (by kernel_rfl) (of_decide_eq_true (by kernel_rfl)) k1 hg lt1) trodAll_mk0), rfl, hg.frame _, fun h => by cases h⟩

theorem reads (os : Os) {H : Type} (enc : TypeId × Value → H) : ∃ places, DataW.whole enc Tryz.prog ((laidWorld os).forCall (fun _ _ => 0) ⟨#[], #[.int .i64 0, .slice none 0 0], []⟩).memory Tryz.f7.params.toList Rows.stateRoomSpec.vars false (#[.int .i64 0, .slice none 0 0] : Array Value).toList 8 = some ([.lit (.int .i64 0), .nil], [], places) :=
  ⟨[], by kernel_rfl⟩

set_option maxRecDepth 100000 in
theorem lifted (os : Os) (started : os.Started) (H : Type) (enc : TypeId × Value → H) (F : Stop.Interp) :
    ReturnsInHanded {} Tryz.checked os 7 .any ((OpenSpec.ofChange Rows.stateRoomSpec).preRow enc Tryz.prog Tryz.f7 Rows.stateRoomRow.domain false Rows.stateRoomRow.laid) (((OpenSpec.ofChange Rows.stateRoomSpec).at F).post enc Tryz.prog Tryz.f7 false true false false) := by
  obtain ⟨places, hx⟩ := reads os enc
  refine returnsInHanded_of_row (C := Tryz.checked) (s := OpenSpec.ofChange Rows.stateRoomSpec) ownKb started (by kernel_rfl) Tryz.func7
    (witness_row_at (enc := enc) (C := Tryz.checked) false (laidWorld os) #[.int .i64 0, .slice none 0 0] (World.laidAll_os _ _ _) (by kernel_rfl) (by kernel_rfl) (by kernel_rfl)
      (OpenSpec.preRow_of_cond 8 hx (by kernel_rfl) (fun k hk => by cases hk) (by kernel_rfl) (laid_met os _))) ?_
  intro W base args ds gs before hval hW _ _ _ hL hS _
  exact contract H enc W base args ds gs before hval hW hL hS

theorem said : Rows.StateRoomSaid :=
  OpenClaim.holds_of_cond 7 Tryz.f7 rfl rfl rfl rfl rfl rfl rfl ⟨rfl, rfl, rfl, rfl, rfl⟩ rfl rfl rfl rfl rfl (by kernel_rfl) Tryz.func7 (by kernel_rfl)
    (of_decide_eq_true (by kernel_rfl)) (by unfold Func.isWrapper; first | (rw [if_pos (by decide +kernel)]; kernel_rfl) | (rw [if_neg (by decide +kernel)]; exact ⟨rfl, rfl⟩))
    (fun os started H enc _ F => by rw [OpenClaim.pre_eq_preRow]; exact lifted os started H enc F)

theorem plain (f : FuncId) (fn : Func) (hf : Tryz.pinned.checked.prog.funcNamed "tompion/tompionlaw08.StateRoom" = some f) (hfn : Tryz.pinned.checked.prog.funcs[f]? = some fn) :
    true = Tryz.pinned.checked.prog.looks [] ∧ ∀ (j : Nat) t, fn.params[j]? = some t → Tryz.pinned.checked.prog.wantsStandIn t = false := by
  obtain rfl : f = 7 := Option.some.inj ((show Tryz.prog.funcNamed "tompion/tompionlaw08.StateRoom" = some 7 by kernel_rfl).symm.trans hf) |>.symm
  obtain rfl : fn = Tryz.f7 := (Option.some.inj (Tryz.func7.symm.trans hfn)).symm
  refine ⟨by kernel_rfl, fun j t ht => ?_⟩
  rw [Tryz.params7] at ht
  have hm := Array.mem_of_getElem? ht
  simp at hm
  replace hm : t = 3 ∨ t = 22 := by first | (rcases hm with e | e | e <;> simp [e]) | (rcases hm with e | e <;> simp [e])
  rcases hm with rfl | rfl
  · exact (show Tryz.prog.wantsStandIn 3 = false by kernel_rfl)
  · exact (show Tryz.prog.wantsStandIn 22 = false by kernel_rfl)

/-- The statement: the card, its tables tied to the program's text. -/
theorem proved : Rows.StateRoomCardSaid :=
  Claim7.holds_tied_plain_at .later [] _ _ _ _ said (fun _ h => by cases h) (by kernel_rfl) (fun _ h => by cases h) stateRoom_row_tie rfl ⟨rfl, rfl⟩ (by kernel_rfl) rfl plain (by kernel_rfl)
#print axioms proved
end Go.Proofs.YtiidhcpflplpiaaGreatDoor.stateRoom
