/-
  The document's part and field (layer 4).
-/
import Derived.Test.YtiidhcpflplpiaaGreatDoorPlace
import Derived.Test.YtiidhcpflplpiaaGreatDoorBack
namespace Go.Proofs.YtiidhcpflplpiaaGreatDoor
open Go.RowKit Crn

theorem Strs.cells {w w' : World} {v : Value} {l : List Bytes} (h : Strs w v l) (hb : Below w.heap.size w w') : Strs w' v l := by
  obtain ⟨b, cap, rfl, hc⟩ := h
  refine ⟨b, cap, rfl, fun i hi => ?_⟩
  rw [hb.cell (p := ⟨b, i, none⟩) (World.block_lt_of_cell? w _ (hc i hi))]
  exact hc i hi

theorem span_ends {f : Nat} {p : Bytes} {step : Nat} {l : List Bytes} (hl : split 45 p = l) (hp : p ≠ star) (h1 : 1 ≤ l.length) (h2 : l.length ≤ 2) :
    spanN f p step = match place f l[0], place f l[l.length - 1] with
      | some a, some b => if b < a then none else some (bitsN f a b step)
      | _, _ => none := by
  unfold spanN
  rw [if_neg hp, hl]
  match l, h1, h2 with
  | [x], _, _ =>
    show (match place f x with | some a => some (bitsN f a a step) | none => none) = match place f x, place f x with | some a, some b => if b < a then none else some (bitsN f a b step) | _, _ => none
    cases place f x <;> simp
  | [x, y], _, _ => rfl
theorem span_many {f : Nat} {p : Bytes} {step : Nat} {l : List Bytes} (hl : split 45 p = l) (hp : p ≠ star) (h : 2 < l.length) : spanN f p step = none := by
  unfold spanN
  rw [if_neg hp, hl]
  match l, h with
  | _ :: _ :: _ :: _, _ => rfl
theorem part_many {f : Nat} {s : Bytes} {l : List Bytes} (hl : split 47 s = l) (h : 2 < l.length) : partN f s = none := by
  unfold partN
  rw [hl]
  match l, h with
  | _ :: _ :: _ :: _, _ => rfl
theorem part_one {f : Nat} {s : Bytes} {l : List Bytes} (hl : split 47 s = l) (h : l.length = 1) : partN f s = spanN f l[0] 1 := by
  unfold partN
  rw [hl]
  match l, h with
  | [p], _ => rfl
theorem part_two {f : Nat} {s : Bytes} {l : List Bytes} (hl : split 47 s = l) (h : l.length = 2) :
    partN f s = match number l[1] with
      | some step => if 1 ≤ step ∧ (l[0] = star ∨ (split 45 l[0]).length = 2) then spanN f l[0] step else none
      | none => none := by
  unfold partN
  rw [hl]
  match l, h with
  | [p, q], _ => rfl

theorem is_star (p : Bytes) : ((bs p).toList == (⟨#[42]⟩ : ByteArray).toList) = decide (p = star) := same_text p star

theorem run_step {f b st k n set : Nat} (h : n ≤ b) : gatherN f b st (k + 1) n set = gatherN f b st k (n + st) (set ||| bitN f n) := by
  show (if n ≤ b then _ else _) = _
  rw [if_pos h]
theorem run_stop {f b st k n set : Nat} (h : ¬ n ≤ b) : gatherN f b st k n set = set := by
  cases k with
  | zero => rfl
  | succ k =>
    show (if n ≤ b then _ else _) = _
    rw [if_neg h]
theorem gather_next {f b st k n set r : Nat} (h : n ≤ b) (hk : b + 1 - n ≤ k) (hg : gatherN f b st k n set = r) : gatherN f b st (k - 1) (n + st) (set ||| bitN f n) = r := by
  obtain ⟨j, rfl⟩ : ∃ j, k = j + 1 := ⟨k - 1, by omega⟩
  rw [run_step h] at hg
  exact hg
theorem bit_plain {f n : Nat} (h : ¬ (f = 4 ∧ n = 7)) : bitN f n = 2 ^ n := if_neg h
theorem bit_week {f n : Nat} (h1 : f = 4) (h2 : n = 7) : bitN f n = 1 := if_pos ⟨h1, h2⟩
theorem or_pow (t m : Nat) (ht : t < 18446744073709551616) (hm : m < 64) : bits .or .u64 (t : Int) (IntKind.u64.wrap (2 ^ m)) = ((t ||| 2 ^ m : Nat) : Int) := by
  have h2 : 2 ^ m < 18446744073709551616 := Nat.pow_lt_pow_right (a := 2) (by omega) hm
  have e0 : (2 : Int) ^ m = ((2 ^ m : Nat) : Int) := by simp
  have key : ∀ q : Nat, q < 18446744073709551616 → bits .or .u64 (t : Int) (IntKind.u64.wrap (q : Int)) = ((t ||| q : Nat) : Int) := fun q hq => by
    rw [IntWalk.u64_in _ (by omega)]
    exact u64_or_nat t q ht hq
  rw [e0]
  exact key _ h2
theorem or_one (t : Nat) (ht : t < 18446744073709551616) : bits .or .u64 (t : Int) 1 = ((t ||| 1 : Nat) : Int) := u64_or_nat t 1 ht (by omega)
theorem or_lt {t m : Nat} (ht : t < 18446744073709551616) (hm : m < 64) : t ||| 2 ^ m < 18446744073709551616 :=
  Nat.or_lt_two_pow (n := 64) ht (Nat.pow_lt_pow_right (a := 2) (by omega) hm)

/-- What part answers. -/
def answer (r : Option Nat) : Ending := .returned (.tuple #[.int .u64 (r.getD 0 : Nat), .bool r.isSome])

theorem orNone_place {f : Nat} (hf : f < 5) (s : Bytes) : -1 ≤ orNone (place f s) ∧ orNone (place f s) ≤ 59 := by
  cases h : place f s with
  | none => simp [orNone]
  | some n =>
    have := place_range hf h
    have := high_lt f hf
    simp only [orNone]
    omega
theorem ends_val {f st : Nat} {x y : Bytes} {r : Option Nat} (h : r = match place f x, place f y with
      | some a, some b => if b < a then none else some (bitsN f a b st)
      | _, _ => none) :
    (orNone (place f x) < 0 → r = none) ∧ (orNone (place f y) < orNone (place f x) → r = none) ∧ (0 ≤ orNone (place f x) → orNone (place f x) ≤ orNone (place f y) → r = some (bitsN f (orNone (place f x)).toNat (orNone (place f y)).toNat st)) := by
  subst h
  cases place f x with
  | none => exact ⟨fun _ => rfl, fun _ => rfl, fun h => by simp [orNone] at h⟩
  | some a =>
    cases place f y with
    | none => exact ⟨fun _ => rfl, fun _ => rfl, fun h1 h2 => by simp [orNone] at h1 h2; omega⟩
    | some b =>
      refine ⟨fun h => by simp [orNone] at h; omega, fun h => ?_, fun _ h => ?_⟩
      · simp only [orNone] at h
        exact if_pos (by omega)
      · simp only [orNone] at h
        exact if_neg (by omega)
theorem split_len {c : UInt8} {l q : Bytes} (h : q ∈ split c l) : q.length ≤ l.length := by
  unfold split at h
  induction l generalizing q with
  | nil => simp [splitP] at h; subst h; simp
  | cons x l ih =>
    cases hx : x == c
    · rw [splitP_no (p := (· == c)) hx] at h
      cases hs : splitP (· == c) l with
      | nil => exact absurd hs (splitP_ne _ _)
      | cons y t =>
        rw [hs] at h ih
        simp only [onto, List.mem_cons] at h
        rcases h with rfl | h
        · have := ih (q := y) (by simp); simp; omega
        · have := ih (q := q) (by simp [h]); simp; omega
    · rw [splitP_yes (p := (· == c)) hx] at h
      rcases List.mem_cons.1 h with rfl | h
      · simp
      · have := ih h; simp; omega

end Go.Proofs.YtiidhcpflplpiaaGreatDoor
