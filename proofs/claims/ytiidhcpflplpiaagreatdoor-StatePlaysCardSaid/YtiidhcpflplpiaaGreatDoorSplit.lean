/-
  Cutting bytes at bytes, in plain lists: what is cut and joined again; the fields of a text whose blanks are doubled and whose letters are great.
-/
import Derived.Test.YtiidhcpflplpiaaGreatDoorMath
namespace Crn

theorem splitP_ne (p : UInt8 → Bool) (l : Bytes) : splitP p l ≠ [] := by
  cases l with
  | nil => simp [splitP]
  | cons b r =>
    unfold splitP
    split
    · simp
    · split <;> simp

/-- A byte more at the beginning of the first piece. -/
def onto (b : UInt8) : List Bytes → List Bytes
  | [] => [[b]]
  | h :: t => (b :: h) :: t
theorem splitP_yes {p : UInt8 → Bool} {b : UInt8} (h : p b = true) (r : Bytes) : splitP p (b :: r) = [] :: splitP p r := by
  simp [splitP, h]
theorem splitP_no {p : UInt8 → Bool} {b : UInt8} (h : p b = false) (r : Bytes) : splitP p (b :: r) = onto b (splitP p r) := by
  simp only [splitP, h, Bool.false_eq_true, if_false]
  cases splitP p r <;> rfl

theorem onto_append (b : UInt8) {l : List Bytes} (h : l ≠ []) (m : List Bytes) : onto b (l ++ m) = onto b l ++ m := by
  cases l with
  | nil => exact absurd rfl h
  | cons x t => rfl

theorem splitP_append_cut {p : UInt8 → Bool} {c : UInt8} (hc : p c = true) (a b : Bytes) : splitP p (a ++ c :: b) = splitP p a ++ splitP p b := by
  induction a with
  | nil => simp [splitP, hc]
  | cons x a ih =>
    rw [List.cons_append]
    cases hx : p x
    · rw [splitP_no hx, splitP_no hx, ih, onto_append _ (splitP_ne _ _)]
    · rw [splitP_yes hx, splitP_yes hx, ih, List.cons_append]
theorem splitP_none {p : UInt8 → Bool} {l : Bytes} (h : ∀ b ∈ l, p b = false) : splitP p l = [l] := by
  induction l with
  | nil => rfl
  | cons x l ih => rw [splitP_no (h x (by simp)), ih (fun b hb => h b (by simp [hb]))]; rfl
theorem splitP_cut {p : UInt8 → Bool} {c : UInt8} (hc : p c = true) {a : Bytes} (ha : ∀ b ∈ a, p b = false) (b : Bytes) : splitP p (a ++ c :: b) = a :: splitP p b := by
  rw [splitP_append_cut hc, splitP_none ha]; rfl
theorem splitP_map {p : UInt8 → Bool} {g : UInt8 → UInt8} (h : ∀ b, p (g b) = p b) (l : Bytes) : splitP p (l.map g) = (splitP p l).map (·.map g) := by
  induction l with
  | nil => rfl
  | cons x l ih =>
    rw [List.map_cons]
    cases hx : p x
    · rw [splitP_no hx, splitP_no (by rw [h]; exact hx), ih]
      cases splitP p l <;> rfl
    · rw [splitP_yes hx, splitP_yes (by rw [h]; exact hx), ih]; rfl
theorem splitP_mem {p : UInt8 → Bool} {l q : Bytes} (h : q ∈ splitP p l) : ∀ b ∈ q, p b = false := by
  induction l generalizing q with
  | nil => simp [splitP] at h; subst h; simp
  | cons x l ih =>
    cases hx : p x
    · rw [splitP_no hx] at h
      cases hs : splitP p l with
      | nil => exact absurd hs (splitP_ne _ _)
      | cons y t =>
        rw [hs] at h ih
        simp only [onto, List.mem_cons] at h
        rcases h with rfl | h
        · intro b hb
          rcases List.mem_cons.1 hb with rfl | hb
          · exact hx
          · exact ih (by simp) b hb
        · exact ih (by simp [h])
    · rw [splitP_yes hx] at h
      rcases List.mem_cons.1 h with rfl | h
      · simp
      · exact ih h
theorem splitP_sub {p : UInt8 → Bool} {l q : Bytes} (h : q ∈ splitP p l) : ∀ b ∈ q, b ∈ l := by
  induction l generalizing q with
  | nil => simp [splitP] at h; subst h; simp
  | cons x l ih =>
    cases hx : p x
    · rw [splitP_no hx] at h
      cases hs : splitP p l with
      | nil => exact absurd hs (splitP_ne _ _)
      | cons y t =>
        rw [hs] at h ih
        simp only [onto, List.mem_cons] at h
        rcases h with rfl | h
        · intro b hb
          rcases List.mem_cons.1 hb with rfl | hb
          · simp
          · exact List.mem_cons_of_mem _ (ih (by simp) b hb)
        · exact fun b hb => List.mem_cons_of_mem _ (ih (by simp [h]) b hb)
    · rw [splitP_yes hx] at h
      rcases List.mem_cons.1 h with rfl | h
      · simp
      · exact fun b hb => List.mem_cons_of_mem _ (ih h b hb)

theorem split_none {c : UInt8} {l : Bytes} (h : c ∉ l) : split c l = [l] :=
  splitP_none (fun b hb => by simp only [beq_eq_false_iff_ne]; exact fun e => h (e ▸ hb))
theorem split_cut {c : UInt8} {a : Bytes} (h : c ∉ a) (b : Bytes) : split c (a ++ c :: b) = a :: split c b :=
  splitP_cut (by simp) (fun x hx => by simp only [beq_eq_false_iff_ne]; exact fun e => h (e ▸ hx)) b
theorem split_append_cut (c : UInt8) (a b : Bytes) : split c (a ++ c :: b) = split c a ++ split c b := splitP_append_cut (by simp) a b
theorem split_join {c : UInt8} {ps : List Bytes} (h0 : ps ≠ []) (h : ∀ q ∈ ps, c ∉ q) : split c (join c ps) = ps := by
  match ps, h0 with
  | [p], _ => exact split_none (h p (by simp))
  | p :: q :: r, _ =>
    show split c (p ++ c :: join c (q :: r)) = _
    rw [split_cut (h p (by simp)), split_join (by simp) (fun x hx => h x (by simp [List.mem_cons.1 hx]))]

/-! Fields. -/
theorem words_cons_blank {c : UInt8} (h : isBlank c = true) (r : Bytes) : words (c :: r) = words r := by
  unfold words; rw [splitP_yes h]; rfl
theorem words_append_blank {c : UInt8} (h : isBlank c = true) (a b : Bytes) : words (a ++ c :: b) = words a ++ words b := by
  unfold words; rw [splitP_append_cut h, List.filter_append]
theorem words_one {a : Bytes} (h0 : a ≠ []) (h : ∀ b ∈ a, isBlank b = false) : words a = [a] := by
  unfold words; rw [splitP_none h]
  cases a with
  | nil => exact absurd rfl h0
  | cons x a => rfl
theorem words_nil : words [] = [] := rfl
theorem words_cut {a : Bytes} (h0 : a ≠ []) (h : ∀ b ∈ a, isBlank b = false) (b : Bytes) : words (a ++ 32 :: b) = a :: words b := by
  rw [words_append_blank (by decide), words_one h0 h]; rfl
theorem words_mem {s q : Bytes} (h : q ∈ words s) : q ≠ [] ∧ ∀ b ∈ q, isBlank b = false := by
  obtain ⟨h1, h2⟩ := List.mem_filter.1 h
  exact ⟨by cases q <;> simp at h2 ⊢, splitP_mem h1⟩
theorem words_join {ps : List Bytes} (h : ∀ q ∈ ps, q ≠ [] ∧ ∀ b ∈ q, isBlank b = false) : words (join 32 ps) = ps := by
  match ps with
  | [] => rfl
  | [p] => exact words_one (h p (by simp)).1 (h p (by simp)).2
  | p :: q :: r =>
    show words (p ++ 32 :: join 32 (q :: r)) = _
    rw [words_cut (h p (by simp)).1 (h p (by simp)).2, words_join (fun x hx => h x (by simp [List.mem_cons.1 hx]))]
/-- Tabs as blanks, then cut at blanks. -/
theorem words_tabs (s : Bytes) : (split 32 (s.map fun b => if b = 9 then 32 else b)).filter (fun w => !w.isEmpty) = words s := by
  unfold words split
  have e : splitP (· == 32) (s.map fun b => if b = 9 then 32 else b) = splitP isBlank s := by
    induction s with
    | nil => rfl
    | cons x s ih =>
      rw [List.map_cons]
      cases hx : isBlank x
      · have h9 : ¬ x = 9 := by intro e; subst e; exact absurd hx (by decide)
        have h32 : (x == 32) = false := by
          cases h : x == 32
          · rfl
          · simp [isBlank, h] at hx
        rw [if_neg h9, splitP_no (p := (· == 32)) h32, splitP_no hx, ih]
      · rw [splitP_yes hx, splitP_yes, ih]
        simp only [isBlank, Bool.or_eq_true, beq_iff_eq] at hx
        rcases hx with rfl | rfl <;> decide
  rw [e]

/-! Great letters, blanks twice. -/
def up1 (b : UInt8) : UInt8 := if 97 ≤ b ∧ b ≤ 122 then b - 32 else b
def up (s : Bytes) : Bytes := s.flatMap fun b => if isBlank b then [32, b] else [up1 b]

theorem all_bytes {P : UInt8 → Prop} (h : ∀ n : Nat, n < 256 → P (UInt8.ofNat n)) (b : UInt8) : P b := by
  have := h b.toNat b.toNat_lt
  rwa [UInt8.ofNat_toNat] at this
theorem up1_blank (b : UInt8) : isBlank (up1 b) = isBlank b := all_bytes (P := fun b => isBlank (up1 b) = isBlank b) (by decide +kernel) b
theorem up1_small (b : UInt8) : small1 (up1 b) = small1 b := all_bytes (P := fun b => small1 (up1 b) = small1 b) (by decide +kernel) b
theorem up1_digit (b : UInt8) : digit (up1 b) = digit b := all_bytes (P := fun b => digit (up1 b) = digit b) (by decide +kernel) b
theorem up1_mark (c : UInt8) (hc : c < 64) (b : UInt8) : (up1 b == c) = (b == c) := by
  have h : ∀ m : Nat, m < 64 → ∀ n : Nat, n < 256 → (up1 (UInt8.ofNat n) == UInt8.ofNat m) = (UInt8.ofNat n == UInt8.ofNat m) := by decide +kernel
  have := h c.toNat (by exact UInt8.lt_iff_toNat_lt.1 hc) b.toNat b.toNat_lt
  rwa [UInt8.ofNat_toNat, UInt8.ofNat_toNat] at this

theorem words_up (s : Bytes) : words (up s) = (words s).map (·.map up1) := by
  have key : ∀ s : Bytes, (∀ b : UInt8, isBlank b = false → ∀ h t, splitP isBlank s = h :: t → True) ∧
      ∃ h t h' t', splitP isBlank s = h :: t ∧ splitP isBlank (up s) = h' :: t' ∧ h' = h.map up1 ∧ t'.filter (fun w => !w.isEmpty) = (t.filter (fun w => !w.isEmpty)).map (·.map up1) := by
    intro s
    refine ⟨fun _ _ _ _ _ => trivial, ?_⟩
    induction s with
    | nil => exact ⟨[], [], [], [], rfl, rfl, rfl, rfl⟩
    | cons x s ih =>
      obtain ⟨h, t, h', t', e1, e2, e3, e4⟩ := ih
      cases hx : isBlank x
      · refine ⟨x :: h, t, up1 x :: h', t', ?_, ?_, by rw [e3]; rfl, e4⟩
        · rw [splitP_no hx, e1]; rfl
        · have : up (x :: s) = up1 x :: up s := by simp [up, hx]
          rw [this, splitP_no (by rw [up1_blank]; exact hx), e2]; rfl
      · refine ⟨[], h :: t, [], [] :: h' :: t', ?_, ?_, rfl, ?_⟩
        · rw [splitP_yes hx, e1]
        · have : up (x :: s) = 32 :: x :: up s := by simp [up, hx]
          rw [this, splitP_yes (by decide), splitP_yes hx, e2]
        · subst e3
          cases h with
          | nil => simpa using e4
          | cons y h => simpa using e4
  obtain ⟨_, h, t, h', t', e1, e2, e3, e4⟩ := key s
  unfold words
  rw [e1, e2]
  subst e3
  cases h with
  | nil => simpa using e4
  | cons y h => simpa using e4

theorem small_up (s : Bytes) : small (s.map up1) = small s := by
  unfold small
  rw [List.map_map]
  exact List.map_congr_left fun b _ => up1_small b
theorem number_up (s : Bytes) : number (s.map up1) = number s := by
  match s with
  | [] => rfl
  | [a] => simp [number, up1_digit]
  | [a, b] => simp [number, up1_digit]
  | _ :: _ :: _ :: _ => rfl
theorem place_up (f : Nat) (s : Bytes) : place f (s.map up1) = place f s := by
  unfold place; rw [small_up, number_up]
theorem star_up (p : Bytes) : p.map up1 = star ↔ p = star := by
  match p with
  | [] => simp [star]
  | [a] =>
    have := up1_mark 42 (by decide) a
    simp only [star, List.map_cons, List.map_nil, List.cons.injEq, and_true]
    rw [← beq_iff_eq (a := up1 a), this, beq_iff_eq]
  | _ :: _ :: _ => simp [star]
theorem split_up (c : UInt8) (hc : c < 64) (s : Bytes) : split c (s.map up1) = (split c s).map (·.map up1) := splitP_map (up1_mark c hc) s
theorem span_up (f : Nat) (p : Bytes) (step : Nat) : spanN f (p.map up1) step = spanN f p step := by
  unfold spanN
  rw [split_up 45 (by decide)]
  by_cases h : p = star
  · rw [if_pos h, if_pos ((star_up p).2 h)]
  · rw [if_neg h, if_neg (fun e => h ((star_up p).1 e))]
    match split 45 p with
    | [] => rfl
    | [x] => simp only [List.map_cons, List.map_nil, place_up]
    | [x, y] => simp only [List.map_cons, List.map_nil, place_up]
    | _ :: _ :: _ :: _ => rfl
theorem part_up (f : Nat) (s : Bytes) : partN f (s.map up1) = partN f s := by
  unfold partN
  rw [split_up 47 (by decide)]
  match split 47 s with
  | [] => rfl
  | [p] => simp only [List.map_cons, List.map_nil, span_up]
  | [p, q] => simp only [List.map_cons, List.map_nil, number_up, span_up, star_up, split_up 45 (by decide), List.length_map]
  | _ :: _ :: _ :: _ => rfl
theorem parts_up (f : Nat) (l : List Bytes) (set : Nat) : parts f (l.map (·.map up1)) set = parts f l set := by
  induction l generalizing set with
  | nil => rfl
  | cons p l ih => simp only [List.map_cons, parts, part_up, ih]
theorem field_up (f : Nat) (s : Bytes) : field f (s.map up1) = field f s := by
  unfold field; rw [split_up 44 (by decide), parts_up]
theorem head_up (s : Bytes) : ((s.map up1).head? == some 42) = (s.head? == some 42) := by
  cases s with
  | nil => rfl
  | cons a s => simpa using up1_mark 42 (by decide) a
theorem five_up (a b c d e : Bytes) (n : Int) : five (a.map up1) (b.map up1) (c.map up1) (d.map up1) (e.map up1) n = five a b c d e n := by
  unfold five; simp only [field_up, head_up]
theorem ahead_up (s : Bytes) : aheadN (s.map up1) = aheadN s := by
  have mark : ∀ g c : UInt8, c < 64 → (up1 g = c ↔ g = c) := fun g c hc => by
    rw [← beq_iff_eq (a := up1 g), up1_mark c hc, beq_iff_eq]
  match s with
  | [] => rfl
  | [_] => rfl
  | [_, _] => rfl
  | [_, _, _] => rfl
  | [_, _, _, _] => rfl
  | [g, h1, h2, m1, m2] => simp only [aheadN, List.map_cons, List.map_nil, mark g 43 (by decide), mark g 45 (by decide), number, up1_digit]
  | _ :: _ :: _ :: _ :: _ :: _ :: _ => rfl

/-- Blanks ahead, behind and twice between, and great letters, change nothing. -/
theorem parse_up (s : Bytes) (h : s.length ≤ 100) : parse (32 :: up s ++ [9]) = parse s := by
  have hl : (up s).length ≤ 2 * s.length := by
    clear h
    induction s with
    | nil => simp [up]
    | cons x s ih =>
      have : up (x :: s) = (if isBlank x then [32, x] else [up1 x]) ++ up s := by simp [up]
      rw [this, List.length_append, List.length_cons]
      split <;> simp <;> omega
  have hw : words (32 :: up s ++ [9]) = (words s).map (·.map up1) := by
    rw [List.cons_append, words_cons_blank (by decide), words_append_blank (by decide), words_nil, List.append_nil, words_up]
  unfold parse
  rw [if_neg (by simp; omega), if_neg (by omega), hw]
  match words s with
  | [] => rfl
  | [_] => rfl
  | [_, _] => rfl
  | [_, _, _] => rfl
  | [_, _, _, _] => rfl
  | [a, b, c, d, e] => simp only [List.map_cons, List.map_nil, five_up]
  | [a, b, c, d, e, z] => simp only [List.map_cons, List.map_nil, five_up, ahead_up]
  | _ :: _ :: _ :: _ :: _ :: _ :: _ :: _ => rfl
end Crn
