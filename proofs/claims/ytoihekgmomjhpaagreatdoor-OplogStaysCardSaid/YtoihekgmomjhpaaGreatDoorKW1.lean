/-
  Texts laid into one (a claim has 60 files at most): WMath.
-/

/-
  A timing wheel in plain numbers (no program): the level and the slot of a time, which of them stay as time goes on, and lists of pairs in the order of their times and ids.
-/
set_option linter.unusedVariables false
namespace Whl
abbrev ItemN := Nat × Nat
/-- Pairs stand by their times, of one time by their ids. -/
def ltB (p q : ItemN) : Bool := decide (p.1 < q.1) || (decide (p.1 = q.1) && decide (p.2 < q.2))
theorem ltB_iff {p q : ItemN} : ltB p q = true ↔ p.1 < q.1 ∨ (p.1 = q.1 ∧ p.2 < q.2) := by simp [ltB]
theorem ltB_false {p q : ItemN} : ltB p q = false ↔ ¬ (p.1 < q.1 ∨ (p.1 = q.1 ∧ p.2 < q.2)) := by
  rw [← ltB_iff]; cases ltB p q <;> simp
theorem ltB_trans {p q r : ItemN} (h : ltB p q = true) (k : ltB q r = true) : ltB p r = true := by
  rw [ltB_iff] at *; omega
theorem ltB_irrefl (p : ItemN) : ltB p p = false := by rw [ltB_false]; omega
theorem ltB_total {p q : ItemN} (h : ltB p q = false) (k : p ≠ q) : ltB q p = true := by
  rw [ltB_false] at h; rw [ltB_iff]
  have : p.1 ≠ q.1 ∨ p.2 ≠ q.2 := by
    by_cases h1 : p.1 = q.1
    · by_cases h2 : p.2 = q.2
      · exact absurd (Prod.ext h1 h2) k
      · exact .inr h2
    · exact .inl h1
  omega
def Up (l : List ItemN) : Prop := l.Pairwise fun p q => ltB p q = true
theorem Up.nodup {l : List ItemN} (h : Up l) : l.Nodup := by
  refine List.Pairwise.imp (fun {p q} hpq e => ?_) h
  subst e; rw [ltB_irrefl] at hpq; cases hpq
theorem Up.filter {l : List ItemN} (h : Up l) (f : ItemN → Bool) : Up (l.filter f) := List.Pairwise.filter f h
theorem Up.tail {p : ItemN} {l : List ItemN} (h : Up (p :: l)) : Up l := (List.pairwise_cons.1 h).2
theorem Up.head {p : ItemN} {l : List ItemN} (h : Up (p :: l)) : ∀ q, q ∈ l → ltB p q = true := (List.pairwise_cons.1 h).1
/-- Two rising lists of the same pairs are one. -/
theorem Up.eq : ∀ {l m : List ItemN}, Up l → Up m → (∀ p, p ∈ l ↔ p ∈ m) → l = m
  | [], [], _, _, _ => rfl
  | [], q :: m, _, _, h => by have := (h q).2 (by simp); simp at this
  | p :: l, [], _, _, h => by have := (h p).1 (by simp); simp at this
  | p :: l, q :: m, hl, hm, h => by
    have e : p = q := by
      refine Classical.byContradiction fun ne => ?_
      have h1 : p ∈ m := by
        have := (h p).1 (by simp)
        rcases List.mem_cons.1 this with e | e
        · exact absurd e ne
        · exact e
      have h2 : q ∈ l := by
        have := (h q).2 (by simp)
        rcases List.mem_cons.1 this with e | e
        · exact absurd e.symm ne
        · exact e
      have h3 := ltB_trans (hl.head q h2) (hm.head p h1)
      rw [ltB_irrefl] at h3; cases h3
    subst e
    refine congrArg (p :: ·) (Up.eq hl.tail hm.tail fun r => ?_)
    have n1 : p ∉ l := fun hp => by have := hl.head p hp; rw [ltB_irrefl] at this; cases this
    have n2 : p ∉ m := fun hp => by have := hm.head p hp; rw [ltB_irrefl] at this; cases this
    have := h r
    constructor
    · intro hr
      rcases List.mem_cons.1 (this.1 (List.mem_cons_of_mem _ hr)) with e | e
      · subst e; exact absurd hr n1
      · exact e
    · intro hr
      rcases List.mem_cons.1 (this.2 (List.mem_cons_of_mem _ hr)) with e | e
      · subst e; exact absurd hr n2
      · exact e
/-- One more, at its place. -/
def ins (x : ItemN) : List ItemN → List ItemN
  | [] => [x]
  | y :: r => if ltB y x = true then y :: ins x r else x :: y :: r
theorem mem_ins {x p : ItemN} : ∀ {l : List ItemN}, p ∈ ins x l ↔ p = x ∨ p ∈ l
  | [] => by simp [ins]
  | y :: r => by
    unfold ins
    split
    · rw [List.mem_cons, mem_ins, List.mem_cons]; constructor <;> (rintro (h | h | h) <;> simp [h])
    · rw [List.mem_cons]
theorem ins_len {x : ItemN} : ∀ {l : List ItemN}, (ins x l).length = l.length + 1
  | [] => rfl
  | y :: r => by
    unfold ins
    split
    · simp [ins_len]
    · simp
theorem ins_perm (x : ItemN) : ∀ (l : List ItemN), (ins x l).Perm (x :: l)
  | [] => List.Perm.refl _
  | y :: r => by
    unfold ins
    split
    · exact ((ins_perm x r).cons y).trans (List.Perm.swap x y r)
    · exact List.Perm.refl _
theorem Up.ins {x : ItemN} : ∀ {l : List ItemN}, Up l → x ∉ l → Up (ins x l)
  | [], _, _ => by simp [Whl.ins, Up]
  | y :: r, h, hn => by
    unfold Whl.ins
    split
    · next hy =>
      refine List.pairwise_cons.2 ⟨fun q hq => ?_, Up.ins h.tail fun hx => hn (List.mem_cons_of_mem _ hx)⟩
      rcases mem_ins.1 hq with e | e
      · subst e; exact hy
      · exact h.head q e
    · next hy =>
      have hxy : ltB x y = true := ltB_total (by simpa using hy) fun e => hn (by simp [e])
      refine List.pairwise_cons.2 ⟨fun q hq => ?_, h⟩
      rcases List.mem_cons.1 hq with e | e
      · subst e; exact hxy
      · exact ltB_trans hxy (h.head q e)
/-- What stands ahead of its place, and behind it. -/
theorem ins_split {x : ItemN} : ∀ {l : List ItemN}, Up l → ins x l = l.take (l.countP (ltB · x)) ++ x :: l.drop (l.countP (ltB · x))
  | [], _ => rfl
  | y :: r, h => by
    unfold ins
    by_cases hy : ltB y x = true
    · rw [if_pos hy, List.countP_cons_of_pos (by simpa using hy), List.take_succ_cons, List.drop_succ_cons, ins_split h.tail]; rfl
    · rw [if_neg hy, List.countP_cons_of_neg (by simpa using hy)]
      have : r.countP (ltB · x) = 0 := by
        rw [List.countP_eq_zero]
        intro q hq hqx
        exact hy (ltB_trans (h.head q hq) hqx)
      rw [this]; rfl
theorem filter_ins {x : ItemN} {l : List ItemN} (h : Up l) (hn : x ∉ l) (f : ItemN → Bool) : (ins x l).filter f = if f x = true then ins x (l.filter f) else l.filter f := by
  by_cases hf : f x = true
  · rw [if_pos hf]
    refine Up.eq ((h.ins hn).filter f) ((h.filter f).ins fun hx => hn (List.mem_filter.1 hx).1) fun p => ?_
    rw [List.mem_filter, mem_ins, mem_ins, List.mem_filter]
    constructor
    · rintro ⟨e | e, k⟩
      · exact .inl e
      · exact .inr ⟨e, k⟩
    · rintro (e | ⟨e, k⟩)
      · subst e; exact ⟨.inl rfl, hf⟩
      · exact ⟨.inr e, k⟩
  · rw [if_neg hf]
    refine Up.eq ((h.ins hn).filter f) (h.filter f) fun p => ?_
    rw [List.mem_filter, mem_ins, List.mem_filter]
    constructor
    · rintro ⟨e | e, k⟩
      · subst e; exact absurd k hf
      · exact ⟨e, k⟩
    · rintro ⟨e, k⟩
      exact ⟨.inr e, k⟩
/-! ### digits -/
theorem div_div_step (a k : Nat) : a / 64 ^ (k + 1) = a / 64 ^ k / 64 := by rw [Nat.pow_succ, Nat.div_div_eq_div_mul]
theorem agree_up {a b k : Nat} (h : a / 64 ^ k = b / 64 ^ k) : ∀ {j : Nat}, k ≤ j → a / 64 ^ j = b / 64 ^ j := by
  intro j hj
  obtain ⟨d, rfl⟩ := Nat.le.dest hj
  rw [Nat.pow_add, ← Nat.div_div_eq_div_mul, ← Nat.div_div_eq_div_mul, h]
/-- The level of the highest digit in which two times differ. -/
def lev (a b : Nat) : Nat := Nat.log2 (a ^^^ b) / 6
theorem xor_zero {a b : Nat} (h : a ^^^ b = 0) : a = b := by
  have := congrArg (· ^^^ b) h
  simpa [Nat.xor_assoc, Nat.xor_self, Nat.xor_zero, Nat.zero_xor] using this
theorem lev_agree {a b : Nat} : a / 64 ^ (lev a b + 1) = b / 64 ^ (lev a b + 1) := by
  have e : (64 : Nat) ^ (lev a b + 1) = 2 ^ (6 * (lev a b + 1)) := by rw [show (64 : Nat) = 2 ^ 6 from rfl, ← Nat.pow_mul]
  rw [e, ← Nat.shiftRight_eq_div_pow, ← Nat.shiftRight_eq_div_pow]
  have h : (a ^^^ b) >>> (6 * (lev a b + 1)) = 0 := by
    rw [Nat.shiftRight_eq_div_pow]
    refine Nat.div_eq_of_lt ?_
    refine Nat.lt_of_lt_of_le Nat.lt_log2_self (Nat.pow_le_pow_right (by omega) ?_)
    unfold lev; omega
  rw [Nat.shiftRight_xor_distrib] at h
  exact xor_zero h
theorem lev_differ {a b : Nat} (hne : a ≠ b) : a / 64 ^ (lev a b) ≠ b / 64 ^ (lev a b) := by
  have e : (64 : Nat) ^ (lev a b) = 2 ^ (6 * (lev a b)) := by rw [show (64 : Nat) = 2 ^ 6 from rfl, ← Nat.pow_mul]
  rw [e, ← Nat.shiftRight_eq_div_pow, ← Nat.shiftRight_eq_div_pow]
  intro h
  have h0 : (a ^^^ b) >>> (6 * (lev a b)) = 0 := by rw [Nat.shiftRight_xor_distrib, h, Nat.xor_self]
  have hx : a ^^^ b ≠ 0 := fun h => hne (xor_zero h)
  rw [Nat.shiftRight_eq_div_pow] at h0
  have h1 := Nat.log2_self_le hx
  have h2 : 2 ^ (6 * lev a b) ≤ 2 ^ (Nat.log2 (a ^^^ b)) := Nat.pow_le_pow_right (by omega) (by unfold lev; omega)
  have := Nat.div_pos (Nat.le_trans h2 h1) (Nat.pow_pos (by omega))
  omega
theorem lev_is {a b i : Nat} (h : a / 64 ^ (i + 1) = b / 64 ^ (i + 1)) (k : a / 64 ^ i ≠ b / 64 ^ i) : lev a b = i := by
  have hne : a ≠ b := fun e => k (by rw [e])
  rcases Nat.lt_trichotomy (lev a b) i with hl | hl | hl
  · exact absurd (agree_up (lev_agree (a := a) (b := b)) (show lev a b + 1 ≤ i by omega)) k
  · exact hl
  · exact absurd (agree_up h (show i + 1 ≤ lev a b by omega)) (lev_differ hne)
/-- The level, 6 for all that are beyond. -/
def lv (a b : Nat) : Nat := min (lev a b) 6
/-- Where, of the wheel's cells, a time is kept: among those that are due, in a slot, or beyond. -/
def place (now t : Nat) : Nat := if t ≤ now then 2 else if 6 ≤ lev now t then 393 else 4 + 65 * lev now t + t / 64 ^ (lev now t) % 64
/-- The first second of the slot in which a time is kept. -/
def bg (now t : Nat) : Nat := t / 64 ^ (lv now t) * 64 ^ (lv now t)
theorem bg_le (now t : Nat) : bg now t ≤ t := Nat.div_mul_le_self _ _
theorem lv_differ {a b : Nat} (h : a < b) : a / 64 ^ (lv a b) < b / 64 ^ (lv a b) := by
  refine Nat.lt_of_le_of_ne (Nat.div_le_div_right (Nat.le_of_lt h)) fun e => ?_
  unfold lv at e
  exact lev_differ (by omega) (agree_up e (Nat.min_le_left _ _))
theorem lt_of_div {a b k : Nat} (h : a / k < b / k) : a < b / k * k := by
  have hk : 0 < k := by
    rcases Nat.eq_zero_or_pos k with e | e
    · subst e; simp at h
    · exact e
  exact (Nat.div_lt_iff_lt_mul hk).1 h
theorem now_bg {now t : Nat} (h : now < t) : now < bg now t := lt_of_div (lv_differ h)
theorem place_slot {now t : Nat} (h : now < t) (h6 : lev now t < 6) : place now t = 4 + 65 * lev now t + t / 64 ^ (lev now t) % 64 := by
  unfold place; rw [if_neg (by omega), if_neg (by omega)]
theorem place_beyond {now t : Nat} (h : now < t) (h6 : 6 ≤ lev now t) : place now t = 393 := by
  unfold place; rw [if_neg (by omega), if_pos h6]
theorem place_due {now t : Nat} (h : t ≤ now) : place now t = 2 := by
  unfold place; rw [if_pos h]
/-- A time that comes not to a slot leaves it where it is. -/
theorem keep {now t x : Nat} (h : now < x) (h1 : now ≤ t) (h2 : t < bg now x) : place t x = place now x := by
  have hx := bg_le now x
  have hd : t / 64 ^ (lv now x) < x / 64 ^ (lv now x) := (Nat.div_lt_iff_lt_mul (Nat.pow_pos (by omega))).2 h2
  by_cases h6 : 6 ≤ lev now x
  · have e : lv now x = 6 := by unfold lv; omega
    rw [e] at hd
    have : 6 ≤ lev t x := by
      refine Classical.byContradiction fun hc => ?_
      have := agree_up (lev_agree (a := t) (b := x)) (show lev t x + 1 ≤ 6 by omega)
      omega
    rw [place_beyond (by omega) this, place_beyond h h6]
  · have e : lv now x = lev now x := by unfold lv; omega
    rw [e] at hd
    have hl : lev t x = lev now x := by
      refine lev_is ?_ (by omega)
      have ha := lev_agree (a := now) (b := x)
      have i1 := Nat.div_le_div_right (c := 64 ^ (lev now x + 1)) h1
      have i2 := Nat.div_le_div_right (c := 64 ^ (lev now x + 1)) (show t ≤ x by omega)
      omega
    rw [place_slot (by omega) (by omega), place_slot h (by omega), hl]
/-- All of a lower level is ahead of the slots of a higher one. -/
theorem ahead_lv {now a b : Nat} (ha : now < a) (hb : now < b) (h : lv now a < lv now b) : a < bg now b := by
  refine lt_of_div ?_
  have h1 : lev now a < 6 := by unfold lv at h; omega
  have e : lv now a = lev now a := by unfold lv; omega
  have := agree_up (lev_agree (a := now) (b := a)) (show lev now a + 1 ≤ lv now b by omega)
  have := lv_differ hb
  omega
/-- Of one level, all of a slot is ahead of a later one. -/
theorem ahead_slot {now a b : Nat} (h : lev now a = lev now b) (hs : a / 64 ^ (lev now a) % 64 < b / 64 ^ (lev now b) % 64) (h6 : lev now b < 6) : a < bg now b := by
  refine lt_of_div ?_
  have e : lv now b = lev now b := by unfold lv; omega
  rw [e]
  have h1 := lev_agree (a := now) (b := a)
  have h2 := lev_agree (a := now) (b := b)
  rw [h] at h1 hs
  rw [h1] at h2
  rw [div_div_step, div_div_step] at h2
  omega
/-- The first second of a slot, as it is reckoned. -/
theorem bg_is {now t : Nat} (h6 : lev now t < 6) : bg now t = (now / 64 ^ (lev now t + 1) * 64 + t / 64 ^ (lev now t) % 64) * 64 ^ (lev now t) := by
  have e : lv now t = lev now t := by unfold lv; omega
  unfold bg
  rw [e, lev_agree (a := now) (b := t), div_div_step]
  congr 1
  omega
theorem place_two {now t : Nat} : place now t = 2 ↔ t ≤ now := by
  constructor
  · intro h
    unfold place at h
    split at h
    · assumption
    · split at h <;> omega
  · exact place_due
theorem slot_lt (t k : Nat) : t / 64 ^ k % 64 < 64 := Nat.mod_lt _ (by omega)
theorem place_is_slot {now t i s : Nat} (hi : i < 6) (hs : s < 64) (h : place now t = 4 + 65 * i + s) : now < t ∧ lev now t = i ∧ t / 64 ^ i % 64 = s := by
  unfold place at h
  split at h
  · omega
  · split at h
    · omega
    · have := slot_lt t (lev now t)
      have e : lev now t = i := by omega
      rw [e] at h
      exact ⟨by omega, e, by omega⟩
theorem place_is_beyond {now t : Nat} (h : place now t = 393) : now < t ∧ 6 ≤ lev now t := by
  unfold place at h
  split at h
  · omega
  · split at h
    · exact ⟨by omega, by assumption⟩
    · have := slot_lt t (lev now t)
      omega
theorem place_range (now t : Nat) : place now t = 2 ∨ place now t = 393 ∨ ∃ i s, i < 6 ∧ s < 64 ∧ place now t = 4 + 65 * i + s := by
  unfold place
  split
  · exact .inl rfl
  · split
    · exact .inr (.inl rfl)
    · exact .inr (.inr ⟨_, _, by omega, slot_lt _ _, rfl⟩)
/-! ### what is kept where -/
/-- The lists hold just those pairs, each where it is to be. -/
structure Ok (now : Nat) (l : List ItemN) (L : Nat → List ItemN) : Prop where
  up : Up l
  due : L 2 = l.filter fun p => decide (p.1 ≤ now)
  perm : ∀ c, c ≠ 2 → (L c).Perm (l.filter fun p => place now p.1 == c)
def put (L : Nat → List ItemN) (c : Nat) (v : List ItemN) : Nat → List ItemN := fun k => if k = c then v else L k
theorem put_same (L : Nat → List ItemN) (c : Nat) (v : List ItemN) : put L c v c = v := by simp [put]
theorem put_other (L : Nat → List ItemN) (c : Nat) (v : List ItemN) {k : Nat} (h : k ≠ c) : put L c v k = L k := by simp [put, h]
theorem Ok.mem {now : Nat} {l : List ItemN} {L : Nat → List ItemN} (h : Ok now l L) {c : Nat} {p : ItemN} : p ∈ L c ↔ p ∈ l ∧ place now p.1 = c := by
  by_cases hc : c = 2
  · subst hc
    rw [h.due, List.mem_filter, place_two]; simp
  · rw [(h.perm c hc).mem_iff, List.mem_filter]; simp
theorem Ok.nodup {now : Nat} {l : List ItemN} {L : Nat → List ItemN} (h : Ok now l L) (c : Nat) : (L c).Nodup := by
  by_cases hc : c = 2
  · subst hc
    rw [h.due]; exact (h.up.filter _).nodup
  · exact (h.perm c hc).nodup_iff.2 (h.up.filter _).nodup
/-- One goes where its time, and the wheel's, tell. -/
def putInL (now : Nat) (x : ItemN) (L : Nat → List ItemN) : Nat → List ItemN :=
  put L (place now x.1) (if place now x.1 = 2 then ins x (L 2) else L (place now x.1) ++ [x])
theorem Ok.putIn {now : Nat} {l : List ItemN} {L : Nat → List ItemN} (h : Ok now l L) {x : ItemN} (hx : x ∉ l) : Ok now (ins x l) (putInL now x L) := by
  refine ⟨h.up.ins hx, ?_, fun c hc => ?_⟩
  · rw [filter_ins h.up hx]
    by_cases h2 : place now x.1 = 2
    · rw [if_pos (by simpa using place_two.1 h2)]
      unfold putInL
      rw [if_pos h2, h2, put_same, h.due]
    · rw [if_neg (by simpa using fun e => h2 (place_two.2 e))]
      unfold putInL
      rw [put_other _ _ _ (Ne.symm h2), h.due]
  · have hp := (ins_perm x l).filter fun p => place now p.1 == c
    unfold putInL
    by_cases he : place now x.1 = c
    · rw [he, put_same, if_neg hc]
      refine List.Perm.trans ?_ hp.symm
      rw [List.filter_cons_of_pos (by simpa using he)]
      exact List.perm_append_comm.trans ((h.perm c hc).cons x)
    · rw [put_other _ _ _ (Ne.symm he)]
      refine List.Perm.trans ?_ hp.symm
      rw [List.filter_cons_of_neg (by simpa using he)]
      exact h.perm c hc
/-- One goes from where its time, and the wheel's, tell that it is. -/
def takeOutL (now : Nat) (x : ItemN) (L : Nat → List ItemN) : Nat → List ItemN := put L (place now x.1) ((L (place now x.1)).erase x)
theorem filter_comm {α : Type} (f g : α → Bool) (l : List α) : (l.filter f).filter g = (l.filter g).filter f := by
  rw [List.filter_filter, List.filter_filter]; congr 1; funext x; rw [Bool.and_comm]
theorem Ok.takeOut {now : Nat} {l : List ItemN} {L : Nat → List ItemN} (h : Ok now l L) (x : ItemN) : Ok now (l.filter (· != x)) (takeOutL now x L) := by
  have key : ∀ c, c ≠ place now x.1 → (l.filter (· != x)).filter (fun p => place now p.1 == c) = l.filter fun p => place now p.1 == c := by
    intro c hc
    rw [filter_comm]
    refine List.filter_eq_self.2 fun p hp => ?_
    have := (List.mem_filter.1 hp).2
    simp only [beq_iff_eq] at this
    simp only [bne_iff_ne, ne_eq]
    intro e; subst e; exact hc this.symm
  refine ⟨h.up.filter _, ?_, fun c hc => ?_⟩
  · unfold takeOutL
    by_cases h2 : place now x.1 = 2
    · rw [h2, put_same, (h.nodup 2).erase_eq_filter, h.due, filter_comm]
    · rw [put_other _ _ _ (Ne.symm h2), h.due, filter_comm]
      refine (List.filter_eq_self.2 fun p hp => ?_).symm
      have := (List.mem_filter.1 hp).2
      simp only [decide_eq_true_eq] at this
      simp only [bne_iff_ne, ne_eq]
      intro e; subst e; exact h2 (place_two.2 this)
  · unfold takeOutL
    by_cases he : place now x.1 = c
    · rw [he, put_same, (h.nodup c).erase_eq_filter]
      rw [filter_comm]
      exact (h.perm c hc).filter _
    · rw [put_other _ _ _ (Ne.symm he), key c (Ne.symm he)]
      exact h.perm c hc
/-- Time goes on, and nobody is passed: all stay where they are. -/
theorem Ok.on {now t : Nat} {l : List ItemN} {L : Nat → List ItemN} (h : Ok now l L) (h1 : now ≤ t) (h2 : ∀ p, p ∈ l → now < p.1 → t < bg now p.1) : Ok t l L := by
  have key : ∀ p, p ∈ l → place t p.1 = place now p.1 := by
    intro p hp
    by_cases hd : p.1 ≤ now
    · rw [place_due hd, place_due (by omega)]
    · exact keep (by omega) h1 (h2 p hp (by omega))
  refine ⟨h.up, ?_, fun c hc => ?_⟩
  · rw [h.due]
    refine List.filter_congr fun p hp => ?_
    have := key p hp
    rw [decide_eq_decide, ← place_two, ← place_two, this]
  · refine (h.perm c hc).trans (List.Perm.of_eq (List.filter_congr fun p hp => ?_))
    rw [key p hp]
/-- Time goes on to the beginning of a list, which is taken out; the others stay. -/
theorem Ok.cut {now t c : Nat} {l : List ItemN} {L : Nat → List ItemN} (h : Ok now l L) (h1 : now ≤ t) (hc2 : c ≠ 2) (h2 : ∀ p, p ∈ l → now < p.1 → place now p.1 ≠ c → t < bg now p.1) :
    Ok t (l.filter fun p => place now p.1 != c) (put L c []) := by
  have key : ∀ p, p ∈ l → place now p.1 ≠ c → place t p.1 = place now p.1 := by
    intro p hp hne
    by_cases hd : p.1 ≤ now
    · rw [place_due hd, place_due (by omega)]
    · exact keep (by omega) h1 (h2 p hp (by omega) hne)
  refine ⟨h.up.filter _, ?_, fun k hk => ?_⟩
  · rw [put_other _ _ _ (Ne.symm hc2), h.due, List.filter_filter]
    refine List.filter_congr fun p hp => ?_
    by_cases he : place now p.1 = c
    · have : ¬ p.1 ≤ now := fun hd => by rw [place_due hd] at he; exact hc2 he.symm
      simp [he, this]
    · have e := key p hp he
      have : (p.1 ≤ t) ↔ (p.1 ≤ now) := by rw [← place_two, ← place_two, e]
      simp [he, this]
  · by_cases hkc : k = c
    · subst hkc
      rw [put_same, List.filter_filter]
      refine List.Perm.of_eq (Eq.symm (List.filter_eq_nil_iff.2 fun p hp => ?_))
      by_cases he : place now p.1 = k
      · simp [he]
      · simp [he, key p hp he]
    · rw [put_other _ _ _ hkc, List.filter_filter]
      refine (h.perm k hk).trans (List.Perm.of_eq (List.filter_congr fun p hp => ?_))
      by_cases he : place now p.1 = c
      · have hck : ¬ c = k := fun e => hkc e.symm
        simp [he, hck]
      · simp [he, key p hp he]
/-- All of a list are put in, one behind the other. -/
def putAllL (now : Nat) : List ItemN → (Nat → List ItemN) → Nat → List ItemN
  | [], L => L
  | x :: r, L => putAllL now r (putInL now x L)
def insAll : List ItemN → List ItemN → List ItemN
  | [], l => l
  | x :: r, l => insAll r (ins x l)
theorem mem_insAll {p : ItemN} : ∀ {r l : List ItemN}, p ∈ insAll r l ↔ p ∈ r ∨ p ∈ l
  | [], l => by simp [insAll]
  | x :: r, l => by
    unfold insAll
    rw [mem_insAll, mem_ins, List.mem_cons]
    constructor
    · rintro (h | h | h)
      · exact .inl (.inr h)
      · exact .inl (.inl h)
      · exact .inr h
    · rintro ((h | h) | h)
      · exact .inr (.inl h)
      · exact .inl h
      · exact .inr (.inr h)
theorem Ok.putAll {now : Nat} : ∀ {r l : List ItemN} {L : Nat → List ItemN}, Ok now l L → r.Nodup → (∀ p, p ∈ r → p ∉ l) → Ok now (insAll r l) (putAllL now r L)
  | [], _, _, h, _, _ => h
  | x :: r, l, L, h, hn, hd => by
    unfold insAll putAllL
    refine Ok.putAll (h.putIn (hd x (by simp))) (List.nodup_cons.1 hn).2 fun p hp hm => ?_
    rcases mem_ins.1 hm with e | e
    · subst e; exact (List.nodup_cons.1 hn).1 hp
    · exact hd p (List.mem_cons_of_mem _ hp) e
/-- A whole list that is taken out, and put in again at its time. -/
theorem Ok.again {now t c : Nat} {l : List ItemN} {L : Nat → List ItemN} (h : Ok now l L) (h1 : now ≤ t) (hc2 : c ≠ 2) (h2 : ∀ p, p ∈ l → now < p.1 → place now p.1 ≠ c → t < bg now p.1) :
    Ok t l (putAllL t (L c) (put L c [])) := by
  have hr := Ok.putAll (h.cut h1 hc2 h2) (h.nodup c) (fun p hp hm => by
    have := (h.mem.1 hp).2
    have := (List.mem_filter.1 hm).2
    simp_all)
  have e : insAll (L c) (l.filter fun p => place now p.1 != c) = l := by
    refine Up.eq hr.up h.up fun p => ?_
    rw [mem_insAll, List.mem_filter, h.mem]
    constructor
    · rintro (⟨a, _⟩ | ⟨a, _⟩) <;> exact a
    · intro hp
      by_cases he : place now p.1 = c
      · exact .inl ⟨hp, he⟩
      · exact .inr ⟨hp, by simpa using he⟩
  rw [e] at hr
  exact hr
/-- The first slot that isn't empty: its level's and all lower levels' earlier slots are. -/
structure First (L : Nat → List ItemN) (i s : Nat) : Prop where
  hi : i < 6
  hs : s < 64
  ne : L (4 + 65 * i + s) ≠ []
  low : ∀ j, j < i → ∀ r, r < 64 → L (4 + 65 * j + r) = []
  lows : ∀ r, r < s → L (4 + 65 * i + r) = []
theorem First.some {now : Nat} {l : List ItemN} {L : Nat → List ItemN} {i s : Nat} (h : Ok now l L) (f : First L i s) : ∃ p, p ∈ L (4 + 65 * i + s) ∧ p ∈ l ∧ now < p.1 ∧ lev now p.1 = i ∧ p.1 / 64 ^ i % 64 = s := by
  obtain ⟨p, hp⟩ := List.exists_mem_of_ne_nil _ f.ne
  have hm := h.mem.1 hp
  obtain ⟨a, b, c⟩ := place_is_slot f.hi f.hs hm.2
  exact ⟨p, hp, hm.1, a, b, c⟩
/-- All others that aren't due lie behind all of the first slot. -/
theorem First.others {now : Nat} {l : List ItemN} {L : Nat → List ItemN} {i s : Nat} (h : Ok now l L) (f : First L i s) {p q : ItemN} (hp : p ∈ L (4 + 65 * i + s)) (hq : q ∈ l) (hn : now < q.1) (hne : place now q.1 ≠ 4 + 65 * i + s) : p.1 < bg now q.1 := by
  have hm := h.mem.1 hp
  obtain ⟨a, b, c⟩ := place_is_slot f.hi f.hs hm.2
  have hi := f.hi
  have hs := f.hs
  rcases place_range now q.1 with e | e | ⟨j, r, hj, hr, e⟩
  · rw [place_two] at e; omega
  · have := place_is_beyond e
    exact ahead_lv a hn (by unfold lv; omega)
  · obtain ⟨a2, b2, c2⟩ := place_is_slot hj hr e
    have hqm : q ∈ L (4 + 65 * j + r) := h.mem.2 ⟨hq, e⟩
    rcases Nat.lt_trichotomy i j with hl | hl | hl
    · exact ahead_lv a hn (by unfold lv; omega)
    · subst hl
      have hsr : s ≠ r := fun e2 => hne (by rw [e, e2])
      have hlt : s < r := by
        rcases Nat.lt_or_ge r s with h3 | h3
        · rw [f.lows r h3] at hqm; simp at hqm
        · omega
      exact ahead_slot (by rw [b, b2]) (by rw [b, b2, c, c2]; exact hlt) (by omega)
    · rw [f.low j hl r hr] at hqm; simp at hqm
/-- The first second of a slot is that of each that it holds. -/
def bgn (now i s : Nat) : Nat := (now / 64 ^ (i + 1) * 64 + s) * 64 ^ i
theorem First.begin {now : Nat} {l : List ItemN} {L : Nat → List ItemN} {i s : Nat} (h : Ok now l L) (f : First L i s) {p : ItemN} (hp : p ∈ L (4 + 65 * i + s)) : bg now p.1 = bgn now i s ∧ now < bgn now i s := by
  have hm := h.mem.1 hp
  obtain ⟨a, b, c⟩ := place_is_slot f.hi f.hs hm.2
  have hi := f.hi
  have e := bg_is (now := now) (t := p.1) (by omega)
  rw [b, c] at e
  exact ⟨e, by rw [show bgn now i s = bg now p.1 from e.symm]; exact now_bg a⟩
theorem First.step {now : Nat} {l : List ItemN} {L : Nat → List ItemN} {i s : Nat} (h : Ok now l L) (f : First L i s) :
    now < bgn now i s ∧ Ok (bgn now i s) l (putAllL (bgn now i s) (L (4 + 65 * i + s)) (put L (4 + 65 * i + s) [])) := by
  obtain ⟨p, hp, hl, hn, e1, e2⟩ := f.some h
  obtain ⟨eb, hb⟩ := f.begin h hp
  refine ⟨hb, h.again (Nat.le_of_lt hb) (by omega) fun q hq hqn hne => ?_⟩
  have := f.others h hp hq hqn hne
  have := bg_le now p.1
  omega
theorem First.stop {now t : Nat} {l : List ItemN} {L : Nat → List ItemN} {i s : Nat} (h : Ok now l L) (f : First L i s) (h1 : now ≤ t) (ht : t < bgn now i s) : Ok t l L ∧ ∀ p, p ∈ l → now < p.1 → t < p.1 := by
  obtain ⟨p, hp, hl, hn, e1, e2⟩ := f.some h
  obtain ⟨eb, hb⟩ := f.begin h hp
  have key : ∀ q, q ∈ l → now < q.1 → t < bg now q.1 := fun q hq hqn => by
    by_cases hne : place now q.1 = 4 + 65 * i + s
    · have := (f.begin h (h.mem.2 ⟨hq, hne⟩)).1
      omega
    · have := f.others h hp hq hqn hne
      have := bg_le now p.1
      omega
  exact ⟨h.on h1 key, fun q hq hqn => Nat.lt_of_lt_of_le (key q hq hqn) (bg_le now q.1)⟩
/-- With all levels empty all that aren't due are beyond. -/
theorem Ok.beyond {now : Nat} {l : List ItemN} {L : Nat → List ItemN} (h : Ok now l L) (he : ∀ i s, i < 6 → s < 64 → L (4 + 65 * i + s) = []) {q : ItemN} (hq : q ∈ l) (hn : now < q.1) : place now q.1 = 393 ∧ q ∈ L 393 := by
  rcases place_range now q.1 with e | e | ⟨j, r, hj, hr, e⟩
  · rw [place_two] at e; omega
  · exact ⟨e, h.mem.2 ⟨hq, e⟩⟩
  · have := h.mem.2 ⟨hq, e⟩
    rw [he j r hj hr] at this; simp at this
theorem Ok.round {now m : Nat} {l : List ItemN} {L : Nat → List ItemN} (h : Ok now l L) (he : ∀ i s, i < 6 → s < 64 → L (4 + 65 * i + s) = []) (hm : ∃ p, p ∈ L 393 ∧ p.1 = m) :
    now < m / 64 ^ 6 * 64 ^ 6 ∧ Ok (m / 64 ^ 6 * 64 ^ 6) l (putAllL (m / 64 ^ 6 * 64 ^ 6) (L 393) (put L 393 [])) := by
  obtain ⟨p, hp, rfl⟩ := hm
  have hpl := h.mem.1 hp
  obtain ⟨a, b⟩ := place_is_beyond hpl.2
  have e : lv now p.1 = 6 := by unfold lv; omega
  have hb := now_bg a
  unfold bg at hb
  rw [e] at hb
  refine ⟨hb, h.again (Nat.le_of_lt hb) (by omega) fun q hq hqn hne => ?_⟩
  exact absurd (h.beyond he hq hqn).1 hne
theorem Ok.far {now t m : Nat} {l : List ItemN} {L : Nat → List ItemN} (h : Ok now l L) (he : ∀ i s, i < 6 → s < 64 → L (4 + 65 * i + s) = []) (hm : ∀ p, p ∈ L 393 → m ≤ p.1) (h1 : now ≤ t) (ht : t < m / 64 ^ 6 * 64 ^ 6) : Ok t l L ∧ ∀ p, p ∈ l → now < p.1 → t < p.1 := by
  have key : ∀ q, q ∈ l → now < q.1 → t < bg now q.1 := fun q hq hqn => by
    obtain ⟨e1, e2⟩ := h.beyond he hq hqn
    have := hm q e2
    obtain ⟨a, b⟩ := place_is_beyond e1
    have e : lv now q.1 = 6 := by unfold lv; omega
    unfold bg
    rw [e]
    refine Nat.lt_of_lt_of_le ht (Nat.mul_le_mul_right _ (Nat.div_le_div_right this))
  exact ⟨h.on h1 key, fun q hq hqn => Nat.lt_of_lt_of_le (key q hq hqn) (bg_le now q.1)⟩
theorem Ok.none {now t : Nat} {l : List ItemN} {L : Nat → List ItemN} (h : Ok now l L) (he : ∀ i s, i < 6 → s < 64 → L (4 + 65 * i + s) = []) (hb : L 393 = []) (h1 : now ≤ t) : Ok t l L ∧ ∀ p, p ∈ l → now < p.1 → t < p.1 := by
  have key : ∀ q, q ∈ l → now < q.1 → False := fun q hq hqn => by
    have := (h.beyond he hq hqn).2
    rw [hb] at this; simp at this
  exact ⟨h.on h1 fun q hq hqn => (key q hq hqn).elim, fun q hq hqn => (key q hq hqn).elim⟩
/-- What comes due is what is due then and was not. -/
theorem come_due {l : List ItemN} (h : Up l) {a b : Nat} (hab : a ≤ b) : l.filter (fun p => decide (p.1 ≤ b)) = l.filter (fun p => decide (p.1 ≤ a)) ++ l.filter fun p => decide (a < p.1) && decide (p.1 ≤ b) := by
  refine Up.eq (h.filter _) (List.pairwise_append.2 ⟨h.filter _, h.filter _, fun p hp q hq => ?_⟩) fun p => ?_
  · have h1 := (List.mem_filter.1 hp).2
    have h2 := (List.mem_filter.1 hq).2
    simp at h1 h2
    rw [ltB_iff]; omega
  · rw [List.mem_append, List.mem_filter, List.mem_filter, List.mem_filter]
    simp
    constructor
    · rintro ⟨h1, h2⟩
      by_cases h3 : p.1 ≤ a
      · exact .inl ⟨h1, h3⟩
      · exact .inr ⟨h1, by omega, h2⟩
    · rintro (⟨h1, h2⟩ | ⟨h1, h2, h3⟩)
      · exact ⟨h1, by omega⟩
      · exact ⟨h1, h3⟩
/-! ### the least -/
/-- The least of a list by times and ids, as it is found from the first on. -/
def leastOf : ItemN → List ItemN → ItemN
  | m, [] => m
  | m, x :: r => leastOf (if ltB x m = true then x else m) r
theorem leastOf_mem : ∀ (r : List ItemN) (m : ItemN), leastOf m r = m ∨ leastOf m r ∈ r
  | [], m => .inl rfl
  | x :: r, m => by
    unfold leastOf
    rcases leastOf_mem r (if ltB x m = true then x else m) with h | h
    · rw [h]
      split
      · exact .inr (by simp)
      · exact .inl rfl
    · exact .inr (List.mem_cons_of_mem _ h)
theorem leastOf_le : ∀ (r : List ItemN) (m : ItemN), (leastOf m r).1 ≤ m.1 ∧ ∀ p, p ∈ r → (leastOf m r).1 ≤ p.1
  | [], m => ⟨Nat.le_refl _, fun p hp => by simp at hp⟩
  | x :: r, m => by
    unfold leastOf
    obtain ⟨h1, h2⟩ := leastOf_le r (if ltB x m = true then x else m)
    have h3 : (if ltB x m = true then x else m).1 ≤ x.1 ∧ (if ltB x m = true then x else m).1 ≤ m.1 := by
      split
      · next h => rw [ltB_iff] at h; omega
      · next h => rw [ltB_iff] at h; omega
    refine ⟨by omega, fun p hp => ?_⟩
    rcases List.mem_cons.1 hp with e | e
    · subst e; omega
    · exact h2 p e
end Whl
