/-
  The program's parsePlace (layer 4): a place, told by its number or by its name.
-/
import Derived.Test.YtiidhcpflplpiaaGreatDoorCMap
import Derived.Test.YtiidhcpflplpiaaGreatDoorCSpan
import Derived.Test.YtiidhcpflplpiaaGreatDoorCSmall
set_option linter.unusedVariables false
namespace Go.Proofs.YtiidhcpflplpiaaGreatDoor
open Go.RowKit Crn

def fieldV (f : Nat) (m : Value) : Value := .agg #[.int .i64 (low f : Nat), .int .i64 (high f : Nat), m]

/-- What parsePlace answers: whether it is a place; if so, its number. -/
def PlaceSaid (f : Nat) (s : Bytes) (e : Ending) : Prop :=
  ∃ v : Nat, v ≤ 99 ∧ (∀ n, place f s = some n → v = n) ∧ e = .returned (.tuple #[.int .i64 v, .bool (place f s).isSome])

theorem small_len (s : Bytes) : (small s).length = s.length := by simp [small]
theorem find_number {f n : Nat} {s : Bytes} (hf : f < 5) (h : number s = some n) : find (small s) 0 (names f) = none := by
  have hl : s.length ≤ 2 := by
    match s, h with
    | [], h => cases h
    | [a], _ => simp
    | [a, b], _ => simp
    | _ :: _ :: _ :: _, h => cases h
  have h3 : ∀ f, f < 5 → ∀ n ∈ names f, n.length = 3 := by decide +kernel
  have key : ∀ (l : List Bytes) (k : Nat), (∀ n ∈ l, n.length = 3) → find (small s) k l = none := by
    intro l
    induction l with
    | nil => intro k _; rfl
    | cons m r ih =>
      intro k hm
      unfold find
      rw [if_neg (fun e => by have := hm m (by simp); rw [← e, small_len] at this; omega), ih (k + 1) (fun n hn => hm n (by simp [hn]))]
  exact key _ 0 (h3 f hf)
theorem place_number {f n : Nat} {s : Bytes} (hf : f < 5) (h : number s = some n) : place f s = if low f ≤ n ∧ n ≤ high f then some n else none := by
  unfold place
  rw [find_number hf h, h]
theorem place_name {f : Nat} {s : Bytes} (h : number s = none) : place f s = (find (small s) 0 (names f)).map (low f + ·) := by
  unfold place
  rw [h]
  cases find (small s) 0 (names f) <;> rfl
theorem some_if {p : Prop} [Decidable p] {n : Nat} : (if p then some n else none).isSome = decide p := by
  split <;> simp_all
theorem NamesAt.drew {w : World} {m : Value} {f : Nat} (h : NamesAt w m f) : NamesAt w.drew m f := h
theorem low_high : ∀ f, f < 5 → low f ≤ 1 ∧ high f ≤ 59 ∧ low f ≤ high f := by decide
theorem place_le {f n : Nat} {s : Bytes} (hf : f < 5) (h : place f s = some n) : n ≤ 59 := by
  have := place_range hf h
  have := low_high f hf
  omega

set_option maxRecDepth 100000 in
set_option maxHeartbeats 1000000 in
theorem parsePlace_any (f : Nat) (m : Value) (s : ByteArray) (w : World) (hf : f < 5) (hs : s.size ≤ 1000) (hN : NamesAt w m f) :
    Calls Tryz.prog 177 #[fieldV f m, .string s] w fun e w' => PlaceSaid f s.data.toList e ∧ Below w.heap.size w w' := by
  obtain ⟨l1, l2, l3⟩ := low_high f hf
  have cn := Lib.hid (fun W => parseNumber_any s W hs)
  unfold fieldV
  cases hn : number s.data.toList with
  | some n =>
    rw [hn] at cn
    simp only [answerN] at cn
    have hp := Lib.hid (place_number hf hn)
    have hle := number_le hn
    have ch := Lib.hid (fun W => spanHas_any (low f) (high f) n W (by omega) (by omega) (by omega))
    simp only [spanV] at ch
    clear hn hN
    generalize low f = lo at *
    generalize high f = hi at *
    obtain ⟨q, hq⟩ : ∃ q, decide (lo ≤ n ∧ n ≤ hi) = q := ⟨_, rfl⟩
    rw [hq] at ch
    replace hq := Lib.hid hq
    go_enter Tryz.func177, Tryz.ntmps177
    go_wp2_with fail
    refine (cn.out _).mono ?_
    rintro e w' ⟨rfl, rfl⟩
    go_wp2_with fail
    refine (ch.out _).mono ?_
    rintro e w2 ⟨rfl, k2⟩
    replace k2 := Lib.hid k2
    go_wp2_with fail
    go_ret2
    refine ⟨⟨n, hle, fun q hq => ?_, ?_⟩, ((Below.refl w.heap.size w).alloc (Nat.le_refl _) _).trans (k2.out.mono (by simp))⟩
    · rw [hp.out] at hq
      split at hq
      · exact Option.some.inj hq
      · cases hq
    · rw [hp.out, some_if, hq.out]
      rfl
  | none =>
    rw [hn] at cn
    simp only [answerN] at cn
    have hp := Lib.hid (place_name (f := f) hn)
    have hle := Lib.hid (fun q (h : place f s.data.toList = some q) => place_le hf h)
    have cs := Lib.hid (fun W => cSmall_any s W hs)
    have hL : Hid (∀ W, NamesAt W m f → (Instr.lookup 180 m (.string (bs (small s.data.toList))) true).run Tryz.prog W = .ok (lookAns ((find (small s.data.toList) 0 (names f)).map (low f + ·))) W) := fun W h => h.run hf _ (by rw [small_len]; simpa using hs)
    rw [← hp.out] at hL
    clear hp hn
    unfold PlaceSaid
    generalize place f s.data.toList = r at *
    simp only [lookAns] at hL
    obtain ⟨v, hv⟩ : ∃ v, r.getD 0 = v := ⟨_, rfl⟩
    obtain ⟨o, ho⟩ : ∃ o, r.isSome = o := ⟨_, rfl⟩
    rw [hv, ho] at hL
    have hfin : Hid (v ≤ 99 ∧ ∀ n, r = some n → v = n) := by
      cases r with
      | none => exact ⟨by rw [← hv]; exact Nat.zero_le _, fun n h => by cases h⟩
      | some x => exact ⟨by rw [← hv]; have := hle.out x rfl; simp only [Option.getD_some]; omega, fun n h => by rw [← hv]; exact Option.some.inj h⟩
    replace ho := Lib.hid ho
    clear hv hle
    generalize bs (small s.data.toList) = S at *
    generalize low f = lo at *
    generalize high f = hi at *
    replace hN := Lib.hid hN
    go_enter Tryz.func177, Tryz.ntmps177
    go_wp2_with fail
    refine (cn.out _).mono ?_
    rintro e w' ⟨rfl, rfl⟩
    go_wp2_with fail
    have hc : (w.alloc (.cells #[.int .i64 lo, .int .i64 hi, m] 182)).cell? ⟨w.heap.size, 2, none⟩ = some m := by rw [World.cell?_alloc_new]; rfl
    have hz : w.heap.size < (w.alloc (.cells #[.int .i64 lo, .int .i64 hi, m] 182)).heap.size := by simp
    have hN1 := Lib.hid (hN.out.below ((Below.refl w.heap.size w).alloc (Nat.le_refl _) (.cells #[.int .i64 lo, .int .i64 hi, m] 182)) (Nat.le_refl _))
    have b1 := Lib.hid ((Below.refl w.heap.size w).alloc (Nat.le_refl _) (.cells #[.int .i64 lo, .int .i64 hi, m] 182))
    have hsz : w.heap.size ≤ (w.alloc (.cells #[.int .i64 lo, .int .i64 hi, m] 182)).heap.size := by simp
    generalize w.alloc (.cells #[.int .i64 lo, .int .i64 hi, m] 182) = w1 at *
    go_region_held3 (fun w' => w'.cell? ⟨w.heap.size, 2, none⟩ = some m) (first | exact hc6 | go_keep)
      (first
        | (go_at_call 184; refine (cs.out _).mono ?_; rintro e w6 ⟨rfl, k6⟩; have hc6 := (k6.cell (p := ⟨w.heap.size, 2, none⟩) hz).trans hc; have hl6 := hL.out w6 (hN1.out.drew.below k6 (Nat.le_refl _)); replace k6 := Lib.hid k6))
    go_wp2_with fail
    go_ret2
    exact ⟨⟨v, hfin.out.1, hfin.out.2, by rw [ho.out]; rfl⟩, b1.out.drew.trans (k6.out.mono hsz)⟩
end Go.Proofs.YtiidhcpflplpiaaGreatDoor
