/-
  Layer 5: the program's Between: a slice of the times.
  Date of the document: the one date of a day, or that there is none.
  Layer 5: the document's last, Is and times.
  Layer 5: the document's Next.
-/
import Derived.Test.YtiidhcpflplpiaaGreatDoorNNext
import Derived.Test.YtiidhcpflplpiaaGreatDoorCut
import Derived.Test.YtiidhcpflplpiaaGreatDoorVDate
import Derived.Test.YtiidhcpflplpiaaGreatDoorRight
import Derived.Deep.DeepCutAuto
import Derived.Deep.CutRange
set_option linter.unusedVariables false
namespace Go.Proofs.YtiidhcpflplpiaaGreatDoor
open Go.RowKit Crn Nxt Civ

def intsOf (l : List Int) : List Value := l.map fun n => .int .i64 n
theorem intsOf_len (l : List Int) : (intsOf l).length = l.length := by simp [intsOf]
theorem intsOf_snoc (l : List Int) (n : Int) : intsOf (l ++ [n]) = intsOf l ++ [.int .i64 n] := by simp [intsOf]
theorem Tryz.info3 : (Tryz.prog.info? 3).map (fun i => (i.zero, i.size, i.bytes)) = some (some (.int .i64 0), 1, 8) := by kernel_rfl
theorem one_int (w : World) (x : Value) : ∀ (j : Nat) (u : Value), [x][j]? = some u → (w.alloc (.cells #[x] 3)).cell? ((⟨w.heap.size, 0, none⟩ : Addr).add j) = some u := by
  intro j u hj
  match j, hj with
  | 0, hj => simp at hj; subst hj; simp [Addr.add]
theorem int_cell (n : Int) : ∀ u ∈ [Value.int .i64 n], u.oneCell' = true := by
  intro u hu; simp at hu; subst hu; rfl

/-- The times so far. -/
structure Btw (w wr : World) (x : SpecN) (a m b : Int) (k : Nat) (l : List Int) (v : Value) : Prop where
  eq : l = allN x a m
  am : a ≤ m + 1
  mb : m = a - 1 ∨ m ≤ b
  k : l.length ≤ k
  own : wr.ownsRow (w.heap.size + 1) 3 1 v l.length (intsOf l)
  below : Below w.heap.size w wr
  lt : w.heap.size + 1 ≤ wr.heap.size
theorem take_full {α : Type} {l : List α} {k : Nat} (h : l.length ≤ k) : l.take k = l := List.take_of_length_le h
theorem Btw.over {w wr : World} {x : SpecN} {a m b : Int} {k : Nat} {l : List Int} {v : Value} (h : Btw w wr x a m b k l v) (hn : ∀ s, nextN x m = some s → b < s) : (allN x a b).take k = l := by
  have e : allN x a b = l := by
    rcases h.mb with e | e
    · rw [h.eq]
      by_cases hab : a ≤ b + 1
      · exact allN_end h.am (by omega) hn
      · rw [allN_empty x (by omega), allN_empty x (by omega)]
    · rw [h.eq]
      exact allN_end h.am e hn
  rw [e]
  exact take_full h.k
theorem Btw.full {w wr : World} {x : SpecN} {a m b : Int} {k : Nat} {l : List Int} {v : Value} (h : Btw w wr x a m b k l v) (hk : k ≤ l.length) : (allN x a b).take k = l := by
  have hk2 := h.k
  rcases h.mb with e | e
  · have hl : l = [] := by rw [h.eq]; exact allN_empty x (by omega)
    rw [hl] at hk
    simp at hk
    rw [hk, hl]
    rfl
  · rw [allN_split x h.am e, ← h.eq, List.take_append_of_le_length hk]
    exact take_full h.k
theorem Btw.next {w wr w2 : World} {x : SpecN} {a m b s : Int} {k : Nat} {l : List Int} {v v2 : Value} (h : Btw w wr x a m b k l v) (hs : nextN x m = some s) (hb : s ≤ b) (hk : l.length < k)
    (o : Obj) (ho : w2.ownsRow (w.heap.size + 1) 3 1 v2 (l.length + 1) (intsOf l ++ [.int .i64 s])) (hg : (wr.alloc o).grownBy w2 v.ownBlock) : Btw w w2 x a s b k (l ++ [s]) v2 := by
  have hr := nextN_range hs
  have ham := h.am
  have hsz := h.lt
  refine ⟨?_, by omega, Or.inr hb, by simp; omega, ?_, ?_, ?_⟩
  · rw [h.eq, allN_next h.am hs]
  · rw [intsOf_snoc, List.length_append]; exact ho
  · exact (h.below.alloc h.below.size o).grown hg (by simp; omega) (fun k hk => by have := (h.own.lt k hk).1; omega)
  · have := hg.size
    simp at this
    omega
/-- What stays in blocks ahead of the row. -/
theorem grown_keep {w wr w2 : World} {e n : Nat} {v : Value} {xs : List Value} (own : wr.ownsRow (w.heap.size + 1) e 1 v n xs) (hlt : w.heap.size + 1 ≤ wr.heap.size) (o : Obj) (hg : (wr.alloc o).grownBy w2 v.ownBlock) : Below (w.heap.size + 1) wr w2 :=
  ((Below.refl _ _).alloc hlt o).grown hg (by simp; omega) (fun k hk => (own.lt k hk).1)
theorem Box.keep {g B : Nat} {wr w' : World} {x0 x1 x2 x3 x4 : Nat} {x5 x6 : Bool} {x7 : Int} (h : Box g wr x0 x1 x2 x3 x4 x5 x6 x7) (k : Below B wr w') (h1 : g < B) : Box g w' x0 x1 x2 x3 x4 x5 x6 x7 :=
  ⟨(k.cell (p := ⟨g, 0, none⟩) h1).trans h.c0, (k.cell (p := ⟨g, 1, none⟩) h1).trans h.c1, (k.cell (p := ⟨g, 2, none⟩) h1).trans h.c2, (k.cell (p := ⟨g, 3, none⟩) h1).trans h.c3, (k.cell (p := ⟨g, 4, none⟩) h1).trans h.c4, (k.cell (p := ⟨g, 5, none⟩) h1).trans h.c5, (k.cell (p := ⟨g, 6, none⟩) h1).trans h.c6, (k.cell (p := ⟨g, 7, none⟩) h1).trans h.c7⟩
theorem Tab.keepB {B : Nat} {w w' : World} (t : Tab w) (h : Below B w w') (hB : max 0 3 < B) : Tab w' := by
  refine ⟨fun f hf => ?_, ?_, Nat.lt_of_lt_of_le t.size h.size⟩
  · obtain ⟨a, b⟩ := t.spans f hf
    exact ⟨(h.cell (p := ⟨0, 2 * f, none⟩) (by show 0 < B; omega)).trans a, (h.cell (p := ⟨0, 2 * f + 1, none⟩) (by show 0 < B; omega)).trans b⟩
  · obtain ⟨m, hm⟩ := t.most
    exact ⟨m, (h.cell (p := ⟨3, 0, none⟩) (by show 3 < B; omega)).trans hm⟩
theorem Btw.step {w wr w2 : World} {x : SpecN} {a m b : Int} {k : Nat} {l : List Int} {v : Value} (h : Btw w wr x a m b k l v) (g : Below wr.heap.size wr w2) : Btw w w2 x a m b k l v := by
  refine ⟨h.eq, h.am, h.mb, h.k, ?_, h.below.trans (g.mono h.below.size), Nat.le_trans h.lt g.size⟩
  refine ⟨h.own.1, ?_⟩
  rcases h.own.2 with hn | ⟨q, cap, cur, e, hq, hgq, rest⟩
  · exact Or.inl hn
  · exact Or.inr ⟨q, cap, cur, e, hq, (g.block q (Array.getElem?_eq_some_iff.1 hgq).1).trans hgq, rest⟩
theorem slice_len {w : World} {base e n : Nat} {v : Value} {xs : List Value} (h : w.ownsRow base e 1 v n xs) : ∃ p c, v = .slice p n c := by
  rcases h.2 with ⟨h1, h2⟩ | ⟨q, cap, cur, h1, _⟩
  · exact ⟨none, 0, by rw [h1, h2]⟩
  · exact ⟨_, cap, h1⟩

/-- A slice of numbers of one's own. -/
def Ints (base : Nat) (w : World) (v : Value) (l : List Int) : Prop := w.ownsRow base 3 1 v l.length (intsOf l)
def SomeInts (base : Nat) (l : List Int) (e : Ending) (w : World) : Prop := ∃ v, e = .returned v ∧ Ints base w v l

end Go.Proofs.YtiidhcpflplpiaaGreatDoor

namespace Go.Proofs.YtiidhcpflplpiaaGreatDoor.V
open Go.RowKit Civ

set_option maxRecDepth 100000 in
set_option maxHeartbeats 1000000 in
theorem refDate_some (n : Nat) (w : World) (hn : n < 2932897) :
    Calls Tryz.prog 50 #[.int .i64 n] w fun e w' => (∃ y m d : Nat, e = .returned (.tuple #[.int .i64 y, .int .i64 m, .int .i64 d, .bool true]) ∧ Day n y m d) ∧ w = w' := by
  have c1 := Lib.hid (most_any w)
  have e1 : decide (2932896 < (n : Int)) = false := by simp; omega
  have e2 : decide ((n : Int) < 0) = false := by simp
  go_enter Tryz.func50, Tryz.ntmps50
  go_wp2_with fail
  refine c1.out.mono ?_
  rintro e w' ⟨rfl, rfl⟩
  go_wp2_with fail
  clear e1 e2
  go_loop [0, 6] (fun a i => ∃ y q : Nat, 1970 ≤ y ∧ y ≤ 9999 ∧ ay y + q = n ∧ i = .int .i64 y ∧ a = .int .i64 q) (fun a _ => (intOf a).toNat)
  case atStart => exact ⟨1970, n, by omega, by omega, by rw [ay_first]; omega, rfl, rfl⟩
  case round =>
    obtain ⟨y, q, y1, y2, hq, rfl, rfl⟩ := hrel
    have c2 := Lib.hid (refYear_any y w (by omega))
    have h1 := am_end_ge y
    have h2 := am_end_le y
    have hs : Hid (ay (y + 1) = ay y + am y 13) := ay_step y1
    by_cases hy : am y 13 ≤ q
    · have y3 := Lib.hid (year_lt (n := n) (y := y + 1) hn (by omega) (by rw [hs.out]; omega))
      generalize am y 13 = l at *
      generalize ay y = a at *
      go_wp2_with fail
      refine c2.out.mono ?_
      rintro e w' ⟨rfl, rfl⟩
      go_wp2_with fail
      refine c2.out.mono ?_
      rintro e w' ⟨rfl, rfl⟩
      go_wp2_with fail
      go_round
      case rel => exact ⟨y + 1, q - l, by omega, y3.out, by rw [hs.out]; omega, by go_num, by go_num⟩
      case measure => simp [intOf]; omega
    · have hlt : Hid (∀ m, m = 13 → q < am y m) := fun m e => by rw [e]; exact Nat.lt_of_not_le hy
      have fin : ∀ m, 1 ≤ m → m ≤ 12 → am y m ≤ q → q < am y (m + 1) → Hid (Day n y m (q - am y m + 1)) := fun m m1 m2 h3 h4 => by
        have e : n - ay y = q := by omega
        have := Day.mk' (n := n) (y := y) (m := m) y1 (by omega) hn m1 m2 (by rw [e]; exact h3) (by rw [e]; exact h4)
        rw [e] at this
        exact this
      have Fin := Lib.hid fin
      clear fin
      have hqb : q < 366 := by omega
      generalize am y 13 = l at *
      go_wp2_with fail
      refine c2.out.mono ?_
      rintro e w' ⟨rfl, rfl⟩
      go_wp2_with fail
      clear hy c2 h1 h2
      go_loop [0, 7] (fun a i => ∃ m p : Nat, 1 ≤ m ∧ m ≤ 12 ∧ am y m + p = q ∧ i = .int .i64 m ∧ a = .int .i64 p) (fun a _ => (intOf a).toNat)
      case atStart => exact ⟨1, q, by omega, by omega, by rw [am_one]; omega, rfl, rfl⟩
      case round =>
        obtain ⟨m, p, m1, m2, hp, rfl, rfl⟩ := hrel
        have c3 := Lib.hid (refLong_some y m w y1 y2 m1 m2)
        have hm : Hid (am y (m + 1) = am y m + long y m) := am_step y m1 m2
        have l1 := long_ge y m1 m2
        have l2 := long_le y m1 m2
        by_cases hl : long y m ≤ p
        · have m3 : Hid (m < 12) := by
            rcases Nat.lt_or_ge m 12 with h | h
            · exact h
            · have := hlt.out (m + 1) (by omega)
              rw [hm.out] at this
              omega
          generalize long y m = k at *
          generalize am y m = b at *
          go_wp2_with fail
          refine c3.out.mono ?_
          rintro e w' ⟨rfl, rfl⟩
          go_wp2_with fail
          refine c3.out.mono ?_
          rintro e w' ⟨rfl, rfl⟩
          go_wp2_with fail
          go_round
          case rel => have := m3.out; exact ⟨m + 1, p - k, by omega, by omega, by rw [hm.out]; omega, by go_num, by go_num⟩
          case measure => simp [intOf]; omega
        · have fin := Lib.hid (Fin.out m m1 m2 (by omega) (by rw [hm.out]; omega)).out
          have e : q - am y m + 1 = p + 1 := by omega
          rw [e] at fin
          clear e
          generalize long y m = k at *
          generalize am y m = b at *
          go_wp2_with fail
          refine c3.out.mono ?_
          rintro e w' ⟨rfl, rfl⟩
          go_wp2_with fail
          (try simp only [Exit.inBlock, Exit.then])
          refine bodyPost_ret (results_four rfl _ _ _) rfl ?_
          exact ⟨⟨y, m, p + 1, rfl, fin.out⟩, rfl⟩

set_option maxRecDepth 100000 in
theorem refDate_none (n : Int) (w : World) (h : ¬ (0 ≤ n ∧ n < 2932897)) :
    Calls Tryz.prog 50 #[.int .i64 n] w fun e w' => e = .returned (.tuple #[.int .i64 0, .int .i64 0, .int .i64 0, .bool false]) ∧ w = w' := by
  have c1 := Lib.hid (most_any w)
  by_cases h1 : 0 ≤ n
  · have h2 : 2932896 < n := by omega
    clear h
    go_enter Tryz.func50, Tryz.ntmps50
    go_wp2_with fail
    refine c1.out.mono ?_
    rintro e w' ⟨rfl, rfl⟩
    go_wp2_with fail
    (try simp only [Exit.inBlock, Exit.then])
    refine bodyPost_ret (results_four rfl _ _ _) rfl ?_
    exact ⟨rfl, rfl⟩
  · clear h
    go_enter Tryz.func50, Tryz.ntmps50
    go_wp2_with fail
    (try simp only [Exit.inBlock, Exit.then])
    refine bodyPost_ret (results_four rfl _ _ _) rfl ?_
    exact ⟨rfl, rfl⟩

theorem day_a : Day 11017 2000 3 1 := ⟨by decide, by decide, by decide, by decide, by decide, by decide, by decide⟩
theorem day_b : Day 19723 2024 1 1 := ⟨by decide, by decide, by decide, by decide, by decide, by decide, by decide⟩
theorem no_day : ¬ IsDate 1900 1 1 := by
  unfold IsDate
  rw [longZ_none (by omega)]
  omega

end Go.Proofs.YtiidhcpflplpiaaGreatDoor.V

namespace Go.Proofs.YtiidhcpflplpiaaGreatDoor
open Go.RowKit Crn Nxt Civ

theorem own_step {w w2 : World} {base e n : Nat} {v : Value} {xs : List Value} (h : w.ownsRow base e 1 v n xs) (g : Below w.heap.size w w2) : w2.ownsRow base e 1 v n xs := by
  refine ⟨h.1, ?_⟩
  rcases h.2 with hn | ⟨q, cap, cur, he, hq, hgq, rest⟩
  · exact Or.inl hn
  · exact Or.inr ⟨q, cap, cur, he, hq, (g.block q (Array.getElem?_eq_some_iff.1 hgq).1).trans hgq, rest⟩
theorem refLast_any (w : World) : Calls Tryz.prog 49 #[] w fun e w' => e = .returned (.int .i64 253402300799) ∧ w = w' := by
  go_enter Tryz.func49, Tryz.ntmps49
  go_wp2_with fail
  refine (V.most_any w).mono ?_
  rintro e w' ⟨rfl, rfl⟩
  go_wp2_with fail
  go_ret
  exact ⟨rfl, rfl⟩

theorem isAt_out {x : SpecN} {s : Int} (h : s + 60 * x.ahead < 0 ∨ 253402300799 < s + 60 * x.ahead) : isAt x s = false := isAt_false.2 fun ha => by
  have h1 := at_iff.1 ha
  unfold last at h1
  omega
theorem isAt_ref {x : SpecN} (hr : right x = true) {s : Int} {n : Nat} (h1 : 0 ≤ s) (h2 : s ≤ 253402300799) (h3 : s % 60 = 0) (h4 : 0 ≤ s + 60 * x.ahead) (h5 : s + 60 * x.ahead ≤ 253402300799) (hn : (n : Int) = (s + 60 * x.ahead) / 86400) :
    isAt x s = (onB x n && minute x ((s + 60 * x.ahead) % 86400 / 3600) ((s + 60 * x.ahead) % 86400 / 60 % 60)) := by
  rw [Bool.eq_iff_iff, isAt_true, Bool.and_eq_true, onB_true, at_iff, ← hn, Int.toNat_natCast]
  unfold last
  constructor
  · rintro ⟨_, _, _, _, _, _, g1, g2⟩
    exact ⟨g1, g2⟩
  · rintro ⟨g1, g2⟩
    exact ⟨hr, h1, h2, h3, h4, h5, g1, g2⟩

set_option maxRecDepth 100000 in
set_option maxHeartbeats 1000000 in
theorem refIs_any (x : SpecN) (hx : Fits x) (s : Int) (s1 : -9223372036854775808 ≤ s) (s2 : s ≤ 9223372036854775807) (w : World) :
    Calls Tryz.prog 26 #[specV x, .int .i64 s] w fun e w' => e = .returned (.bool (isAt x s)) ∧ Below w.heap.size w w' := by
  have Cr := Lib.hid (fun W => right_any x hx W)
  have Cd : Hid (∀ (m d wd : Nat) W, m ≤ 100 → d ≤ 100 → wd ≤ 100 → Calls Tryz.prog 51 #[specV x, .int .i64 m, .int .i64 d, .int .i64 wd] W fun e w' => e = .returned (.bool (day x m d wd)) ∧ Below W.heap.size W w') := fun m d wd W h1 h2 h3 => day_any x hx m d wd W (by omega) (by omega) (by omega) (by omega) (by omega) (by omega)
  have Cm : Hid (∀ (p q : Int) W, 0 ≤ p → p ≤ 100 → 0 ≤ q → q ≤ 100 → Calls Tryz.prog 52 #[specV x, .int .i64 p, .int .i64 q] W fun e w' => e = .returned (.bool (minute x p q)) ∧ Below W.heap.size W w') := fun p q W h1 h2 h3 h4 => minute_any x hx p q W (by omega) (by omega) (by omega) (by omega)
  have H1 : Hid (right x = false → isAt x s = false) := fun h => isAt_right h
  have H2 : Hid (s < 0 ∨ 253402300799 < s ∨ s % 60 ≠ 0 → isAt x s = false) := fun h => isAt_range h
  have H3 : Hid (s + 60 * x.ahead < 0 ∨ 253402300799 < s + 60 * x.ahead → isAt x s = false) := fun h => isAt_out h
  have H4 : Hid (right x = true → ∀ n : Nat, 0 ≤ s → s ≤ 253402300799 → s % 60 = 0 → 0 ≤ s + 60 * x.ahead → s + 60 * x.ahead ≤ 253402300799 → (n : Int) = (s + 60 * x.ahead) / 86400 → isAt x s = (onB x n && minute x ((s + 60 * x.ahead) % 86400 / 3600) ((s + 60 * x.ahead) % 86400 / 60 % 60))) := fun h n h1 h2 h3 h4 h5 h6 => isAt_ref h h1 h2 h3 h4 h5 h6
  have Ho : Hid (∀ n y m d, Day n y m d → onB x n = day x (m : Int) (d : Int) ((n + 4) % 7 : Nat)) := fun n y m d h => on_day h
  have Ha : Hid (right x = true → -899 ≤ x.ahead ∧ x.ahead ≤ 899) := fun h => (right_parts h).2.2.2.2.2
  generalize isAt x s = res at *
  generalize onB x = OB at *
  generalize minute x = MI at *
  generalize day x = D at *
  generalize right x = rt at *
  obtain ⟨x0, x1, x2, x3, x4, x5, x6, x7⟩ := x
  simp only [specV, cellsN] at *
  clear hx
  have B1 := Lib.hid (Box.start w x0 x1 x2 x3 x4 x5 x6 x7)
  have b1 := Lib.hid ((Below.refl w.heap.size w).alloc (Nat.le_refl _) (.cells #[.int .u64 x0, .int .u64 x1, .int .u64 x2, .int .u64 x3, .int .u64 x4, .bool x5, .bool x6, .int .i64 x7] 64))
  go_enter Tryz.func26, Tryz.ntmps26
  go_wp2_with fail
  refine (Cr.out _).mono ?_
  rintro e w1 ⟨rfl, k1⟩
  have B2 := Lib.hid (B1.out.step k1)
  have b2 := Lib.hid (b1.out.trans (k1.mono b1.out.size))
  clear k1 B1 b1
  cases rt with
  | false =>
    have hres := Lib.hid (H1.out (by trivial))
    go_wp2_with fail
    go_ret
    exact ⟨ret_bool (by rw [hres.out]), b2.out⟩
  | true =>
    replace H4 := Lib.hid (H4.out (by trivial))
    obtain ⟨a1, a2⟩ := Ha.out (by trivial)
    clear H1 Ha
    have cl := Lib.hid (refLast_any w1)
    obtain ⟨q0, q1, q2, q3, q4, q5, q6, q7⟩ := B2.out.all
    by_cases h0 : s < 0
    · have hres := Lib.hid (H2.out (Or.inl h0))
      go_wp2_with fail
      go_ret
      exact ⟨ret_bool (by rw [hres.out]), b2.out⟩
    · have h0' : 0 ≤ s := by omega
      by_cases hl : 253402300799 < s
      · have hres := Lib.hid (H2.out (Or.inr (Or.inl hl)))
        go_wp2_with fail
        refine cl.out.mono ?_
        rintro e w7 ⟨rfl, rfl⟩
        go_wp2_with fail
        go_ret
        exact ⟨ret_bool (by rw [hres.out]), b2.out⟩
      · have hl' : s ≤ 253402300799 := by omega
        by_cases hm : s % 60 = 0
        · have hm' : (s % 60 != 0) = false := by rw [hm]; rfl
          replace H4 := Lib.hid (fun n h4 h5 h6 => H4.out n h0' hl' hm h4 h5 h6)
          clear hm H2
          by_cases hneg : s + 60 * x7 < 0
          · have hres := Lib.hid (H3.out (Or.inl hneg))
            go_wp2_with fail
            refine cl.out.mono ?_
            rintro e w7 ⟨rfl, rfl⟩
            go_wp2_with fail
            go_ret
            exact ⟨ret_bool (by rw [hres.out]), b2.out⟩
          · by_cases hbig : 253402300799 < s + 60 * x7
            · have hres := Lib.hid (H3.out (Or.inr hbig))
              go_wp2_with fail
              refine cl.out.mono ?_
              rintro e w7 ⟨rfl, rfl⟩
              go_wp2_with fail
              refine cl.out.mono ?_
              rintro e w7 ⟨rfl, rfl⟩
              go_wp2_with fail
              go_ret
              exact ⟨ret_bool (by rw [hres.out]), b2.out⟩
            · obtain ⟨n, hn⟩ : ∃ n : Nat, (n : Int) = (s + 60 * x7) / 86400 := ⟨((s + 60 * x7) / 86400).toNat, by omega⟩
              have hres := Lib.hid (H4.out n (by omega) (by omega) hn)
              have c1 := Lib.hid (V.refDate_some n w1 (by omega))
              rw [hn] at c1
              have hwd : (n + 4) % 7 < 7 := Nat.mod_lt _ (by omega)
              have ewd : (((n + 4) % 7 : Nat) : Int) = ((s + 60 * x7) / 86400 + 4) % 7 := by omega
              have cm := Lib.hid (fun W => Cm.out ((s + 60 * x7) % 86400 / 3600) ((s + 60 * x7) % 86400 / 60 % 60) W (by omega) (by omega) (by omega) (by omega))
              generalize MI ((s + 60 * x7) % 86400 / 3600) ((s + 60 * x7) % 86400 / 60 % 60) = mi at *
              replace ewd := Lib.hid ewd
              clear H3 H4 Cm hn
              go_wp2_with fail
              refine cl.out.mono ?_
              rintro e w7 ⟨rfl, rfl⟩
              go_wp2_with fail
              refine cl.out.mono ?_
              rintro e w7 ⟨rfl, rfl⟩
              go_wp2_with fail
              refine c1.out.mono ?_
              rintro e w7 ⟨⟨y, m, d, rfl, hd⟩, rfl⟩
              have hm12 := hd.m2
              have hdd : d ≤ 31 := Nat.le_trans hd.d2 (long_le y hd.m1 hd.m2)
              have hob := Lib.hid (Ho.out n y m d hd)
              have c2 := Lib.hid (Cd.out m d ((n + 4) % 7) w1 (by omega) (by omega) (by omega))
              rw [ewd.out] at c2 hob
              clear hd Ho Cd c1 cl ewd hwd
              go_wp2_with fail
              refine c2.out.mono ?_
              rintro e w3 ⟨rfl, k3⟩
              have B3 := Lib.hid (B2.out.step k3)
              have b3 := Lib.hid (b2.out.trans (k3.mono b2.out.size))
              clear k3 B2 b2 c2 q0 q1 q2 q3 q4 q5 q6 q7
              obtain ⟨q0, q1, q2, q3, q4, q5, q6, q7⟩ := B3.out.all
              rw [← hob.out]
              clear hob
              generalize OB n = ob at *
              cases ob with
              | false =>
                go_wp2_with fail
                go_ret
                exact ⟨ret_bool (by rw [hres.out]; rfl), b3.out⟩
              | true =>
                go_wp2_with fail
                refine (cm.out _).mono ?_
                rintro e w4 ⟨rfl, k4⟩
                have b4 := Lib.hid (b3.out.trans (k4.mono b3.out.size))
                clear k4
                go_wp2_with fail
                go_ret
                exact ⟨ret_bool (by rw [hres.out]; rfl), b4.out⟩
        · have hres := Lib.hid (H2.out (Or.inr (Or.inr hm)))
          have hm' : (s % 60 != 0) = true := by simp [hm]
          go_wp2_with fail
          refine cl.out.mono ?_
          rintro e w7 ⟨rfl, rfl⟩
          go_wp2_with fail
          go_ret
          exact ⟨ret_bool (by rw [hres.out]), b2.out⟩

/-! The times of a day. -/
def tsec (x : SpecN) (n i : Nat) : Int := (n : Int) * 86400 + 60 * (i : Int) - 60 * x.ahead
def tok (x : SpecN) (n i : Nat) : Bool := minute x ((i / 60 : Nat) : Int) ((i % 60 : Nat) : Int) && decide (0 ≤ tsec x n i) && decide (tsec x n i ≤ 253402300799)
def timesTo (x : SpecN) (n k : Nat) : List Int := ((List.range k).filter (tok x n)).map (tsec x n)
theorem timesTo_succ (x : SpecN) (n k : Nat) : timesTo x n (k + 1) = timesTo x n k ++ if tok x n k = true then [tsec x n k] else [] := by
  unfold timesTo
  rw [List.range_succ, List.filter_append, List.map_append]
  congr 1
  cases h : tok x n k <;> simp [h]
theorem timesTo_len (x : SpecN) (n k : Nat) : (timesTo x n k).length ≤ k := by
  unfold timesTo
  rw [List.length_map]
  have := List.length_filter_le (tok x n) (List.range k)
  simpa using this
theorem mem_timesTo {x : SpecN} {n k : Nat} {s : Int} : s ∈ timesTo x n k ↔ ∃ i, i < k ∧ tok x n i = true ∧ s = tsec x n i := by
  unfold timesTo
  simp only [List.mem_map, List.mem_filter, List.mem_range]
  constructor
  · rintro ⟨i, ⟨h1, h2⟩, rfl⟩; exact ⟨i, h1, h2, rfl⟩
  · rintro ⟨i, h1, h2, rfl⟩; exact ⟨i, ⟨h1, h2⟩, rfl⟩
theorem timesTo_rises (x : SpecN) (n k : Nat) : (timesTo x n k).Pairwise (· < ·) := by
  unfold timesTo
  rw [List.pairwise_map]
  refine List.Pairwise.imp ?_ ((List.pairwise_lt_range (n := k)).filter _)
  intro a b h
  unfold tsec
  omega
theorem tok_split (x : SpecN) (n k : Nat) (mi : Bool) (h : minute x ((k / 60 : Nat) : Int) ((k % 60 : Nat) : Int) = mi) : tok x n k = (mi && decide (0 ≤ tsec x n k) && decide (tsec x n k ≤ 253402300799)) := by
  unfold tok
  rw [h]

set_option maxRecDepth 100000 in
set_option maxHeartbeats 1000000 in
theorem times_any (x : SpecN) (hx : Fits x) (ha1 : -899 ≤ x.ahead) (ha2 : x.ahead ≤ 899) (n : Nat) (hn : n < 2932897) (hon : onB x n = true) (w : World) :
    Calls Tryz.prog 54 #[specV x, .int .i64 n] w fun e w' => SomeInts (w.heap.size + 1) (timesTo x n 1440) e w' ∧ Below w.heap.size w w' := by
  obtain ⟨i0, hi, hz0, hz1, hz2⟩ := info_parts Tryz.info3
  have Cd : Hid (∀ (m d wd : Nat) W, m ≤ 100 → d ≤ 100 → wd ≤ 100 → Calls Tryz.prog 51 #[specV x, .int .i64 m, .int .i64 d, .int .i64 wd] W fun e w' => e = .returned (.bool (day x m d wd)) ∧ Below W.heap.size W w') := fun m d wd W h1 h2 h3 => day_any x hx m d wd W (by omega) (by omega) (by omega) (by omega) (by omega) (by omega)
  have Cm : Hid (∀ (k : Nat) W, k < 1440 → Calls Tryz.prog 52 #[specV x, .int .i64 (k / 60 : Nat), .int .i64 (k % 60 : Nat)] W fun e w' => e = .returned (.bool (minute x ((k / 60 : Nat) : Int) ((k % 60 : Nat) : Int))) ∧ Below W.heap.size W w') := fun k W h => minute_any x hx _ _ W (by omega) (by omega) (by omega) (by omega)
  have Ho : Hid (∀ y m d, Day n y m d → day x (m : Int) (d : Int) ((n + 4) % 7 : Nat) = true) := fun y m d h => (on_day h).symm.trans hon
  have Ht := Lib.hid (fun k => timesTo_succ x n k)
  have Hl := Lib.hid (fun k => timesTo_len x n k)
  have Hk := Lib.hid (fun k mi h => tok_split x n k mi h)
  have H0 : Hid (timesTo x n 0 = []) := rfl
  have Hs : Hid (∀ k : Nat, tsec x n k = (n : Int) * 86400 + 60 * (k : Int) - 60 * x.ahead) := fun k => rfl
  generalize timesTo x n = TT at *
  generalize tok x n = TK at *
  generalize tsec x n = TS at *
  generalize minute x = MI at *
  generalize day x = D at *
  clear hon
  obtain ⟨x0, x1, x2, x3, x4, x5, x6, x7⟩ := x
  simp only [specV, cellsN] at *
  clear hx
  have B1 := Lib.hid (Box.start w x0 x1 x2 x3 x4 x5 x6 x7)
  have b1 := Lib.hid ((Below.refl w.heap.size w).alloc (Nat.le_refl _) (.cells #[.int .u64 x0, .int .u64 x1, .int .u64 x2, .int .u64 x3, .int .u64 x4, .bool x5, .bool x6, .int .i64 x7] 64))
  have z1 : w.heap.size + 1 ≤ (w.alloc (.cells #[.int .u64 x0, .int .u64 x1, .int .u64 x2, .int .u64 x3, .int .u64 x4, .bool x5, .bool x6, .int .i64 x7] 64)).heap.size := by simp
  have c1 := Lib.hid (V.refDate_some n (w.alloc (.cells #[.int .u64 x0, .int .u64 x1, .int .u64 x2, .int .u64 x3, .int .u64 x4, .bool x5, .bool x6, .int .i64 x7] 64)) hn)
  have hwd : (n + 4) % 7 < 7 := Nat.mod_lt _ (by omega)
  have ewd : Hid ((((n + 4) % 7 : Nat) : Int) = ((n : Int) + 4) % 7) := by unfold Hid; omega
  go_enter Tryz.func54, Tryz.ntmps54
  go_wp2_with fail
  refine c1.out.mono ?_
  rintro e w7 ⟨⟨y, m, d, rfl, hd⟩, rfl⟩
  have hm12 := hd.m2
  have hy1 := hd.y1
  have ey : ((y : Int) == 0) = false := by simp; omega
  have hdd : d ≤ 31 := Nat.le_trans hd.d2 (long_le y hd.m1 hd.m2)
  have c2 := Lib.hid (Cd.out m d ((n + 4) % 7) (w.alloc (.cells #[.int .u64 x0, .int .u64 x1, .int .u64 x2, .int .u64 x3, .int .u64 x4, .bool x5, .bool x6, .int .i64 x7] 64)) (by omega) (by omega) (by omega))
  rw [Ho.out y m d hd, ewd.out] at c2
  clear hd Ho Cd c1 ewd hwd
  go_wp2_with fail
  refine c2.out.mono ?_
  rintro e w1 ⟨rfl, k1⟩
  have B2 := Lib.hid (B1.out.step k1)
  have b2 := Lib.hid (b1.out.trans (k1.mono b1.out.size))
  have z2 : w.heap.size + 1 ≤ w1.heap.size := Nat.le_trans z1 k1.size
  clear k1 c2 B1 b1 z1 ey
  go_wp2_with fail
  go_loopw [9, 10] (fun v i wr => ∃ k : Nat, k ≤ 1440 ∧ i = .int .i64 k ∧ Hid (wr.ownsRow (w.heap.size + 1) 3 1 v (TT k).length (intsOf (TT k))) ∧ w.heap.size + 1 ≤ wr.heap.size ∧ Hid (Box w.heap.size wr x0 x1 x2 x3 x4 x5 x6 x7) ∧ Hid (Below w.heap.size w wr)) (fun _ i _ => 1440 - (intOf i).toNat)
  case atStart => exact ⟨0, by omega, rfl, by rw [H0.out]; exact World.ownsRow_nil _ _ _ _, z2, B2, b2⟩
  case round =>
    obtain ⟨k, hk, rfl, ho, hz, hB, hb⟩ := hrel
    clear B2 b2 z2
    by_cases hlt : k < 1440
    · have hlen := Hl.out k
      have ets := Lib.hid (Hs.out k)
      have c1 := Lib.hid (Cm.out k wr hlt)
      rw [show ((k / 60 : Nat) : Int) = (k : Int) / 60 by omega, show ((k % 60 : Nat) : Int) = (k : Int) % 60 by omega] at c1
      obtain ⟨q0, q1, q2, q3, q4, q5, q6, q7⟩ := hB.out.all
      have htk : Hid (∀ mi, MI ((k : Int) / 60) ((k : Int) % 60) = mi → TK k = (mi && decide (0 ≤ TS k) && decide (TS k ≤ 253402300799))) := fun mi h => Hk.out k mi (by rw [show ((k / 60 : Nat) : Int) = (k : Int) / 60 by omega, show ((k % 60 : Nat) : Int) = (k : Int) % 60 by omega]; exact h)
      have ht := Lib.hid (Ht.out k)
      go_wp2_with fail
      refine c1.out.mono ?_
      rintro e w2 ⟨rfl, k2⟩
      have B3 := Lib.hid (hB.out.step k2)
      have b3 := Lib.hid (hb.out.trans (k2.mono hb.out.size))
      have z3 : w.heap.size + 1 ≤ w2.heap.size := Nat.le_trans hz k2.size
      have ho3 := Lib.hid (own_step ho.out k2)
      clear k2 c1 q0 q1 q2 q3 q4 q5 q6 q7 hB hb hz ho
      have cl := Lib.hid (refLast_any w2)
      generalize (n : Int) * 86400 + 60 * (k : Int) - 60 * x7 = S at *
      cases hmi : MI ((k : Int) / 60) ((k : Int) % 60) with
      | false =>
        have hfin : Hid (TT (k + 1) = TT k) := by unfold Hid; rw [ht.out, htk.out false hmi]; simp
        clear hmi
        go_wp2_with fail
        exact ⟨⟨k + 1, by omega, by go_num, by rw [hfin.out]; exact ho3, z3, B3, b3⟩, by simp [intOf]; omega⟩
      | true =>
        have htk2 := Lib.hid (htk.out true hmi)
        clear hmi htk
        by_cases h0 : 0 ≤ S
        · by_cases h1 : S ≤ 253402300799
          · have hfin : Hid (TT (k + 1) = TT k ++ [S]) := by
              rw [ht.out, htk2.out, ets.out, show decide (0 ≤ S) = true by simpa using h0, show decide (S ≤ 253402300799) = true by simpa using h1]
              rfl
            go_wp2_with fail
            refine cl.out.mono ?_
            rintro e w7 ⟨rfl, rfl⟩
            go_wp2_with (at_builtin; refine wpList_append_own _ rfl _ _ 48 rfl (w.heap.size + 1) 3 i0 (.int .i64 0) 1 8 Tryz.underlying48 hi hz0 hz1 hz2 rfl (by decide) _ _ _ rfl (ho3.out.alloc _) ⟨w2.heap.size, 0, none⟩ 1 1 [.int .i64 _] rfl rfl (one_int _ _) (int_cell _) (by unfold maxLen; omega) (by omega) (by simp; omega) ?_; intro v2 w3 ho2 hg2 _; have ho2 := Lib.hid ho2; have hg2 := Lib.hid hg2)
            have kb := Lib.hid (grown_keep ho3.out z3 _ hg2.out)
            refine ⟨⟨k + 1, by omega, by go_num, ?_, Nat.le_trans z3 kb.out.size, B3.out.keep kb.out (by omega), b3.out.trans (kb.out.mono (by omega))⟩, by simp [intOf]; omega⟩
            rw [hfin.out, intsOf_snoc, List.length_append]
            exact ho2
          · have hfin : Hid (TT (k + 1) = TT k) := by
              unfold Hid
              rw [ht.out, htk2.out, ets.out, show decide (S ≤ 253402300799) = false by simpa using h1]
              simp
            go_wp2_with fail
            refine cl.out.mono ?_
            rintro e w7 ⟨rfl, rfl⟩
            go_wp2_with fail
            exact ⟨⟨k + 1, by omega, by go_num, by rw [hfin.out]; exact ho3, z3, B3, b3⟩, by simp [intOf]; omega⟩
        · have hfin : Hid (TT (k + 1) = TT k) := by
            unfold Hid
            rw [ht.out, htk2.out, ets.out, show decide (0 ≤ S) = false by simpa using h0]
            simp
          go_wp2_with fail
          exact ⟨⟨k + 1, by omega, by go_num, by rw [hfin.out]; exact ho3, z3, B3, b3⟩, by simp [intOf]; omega⟩
    · have e : Hid (k = 1440) := by unfold Hid; omega
      go_wp2_with fail
      go_ret
      exact ⟨⟨_, rfl, by rw [← e.out]; exact ho.out⟩, hb.out⟩
end Go.Proofs.YtiidhcpflplpiaaGreatDoor

namespace Go.Proofs.YtiidhcpflplpiaaGreatDoor
open Go.RowKit Crn Nxt Civ

/-- No time behind A on a day ahead of j. -/
def NoBy (x : SpecN) (A : Int) (j : Nat) : Prop := ∀ n i : Nat, n < j → On x n → Clock x i → 0 ≤ tsec x n i → tsec x n i ≤ 253402300799 → tsec x n i ≤ A
theorem at_tsec {x : SpecN} {s : Int} (h : At x s) : ∃ n i : Nat, On x n ∧ Clock x i ∧ s = tsec x n i := by
  obtain ⟨n, i, h1, h2, e⟩ := h.own
  exact ⟨n, i, h1, h2, by unfold tsec; omega⟩
theorem tok_iff {x : SpecN} {n i : Nat} (hi : i < 1440) : tok x n i = true ↔ Clock x i ∧ 0 ≤ tsec x n i ∧ tsec x n i ≤ 253402300799 := by
  unfold tok
  rw [Bool.and_eq_true, Bool.and_eq_true, decide_eq_true_eq, decide_eq_true_eq]
  constructor
  · rintro ⟨⟨h1, h2⟩, h3⟩
    exact ⟨⟨hi, h1⟩, h2, h3⟩
  · rintro ⟨h1, h2, h3⟩
    exact ⟨⟨h1.2, h2⟩, h3⟩
/-- The first day that is looked at. -/
structure IsFirst (x : SpecN) (A : Int) (F : Nat) : Prop where
  lo : (A + 60 * x.ahead) / 86400 - 1 ≤ (F : Int)
  hi : (F : Int) = (A + 60 * x.ahead) / 86400 - 1 ∨ F = 0
theorem noBy_start {x : SpecN} {A : Int} {F : Nat} (h : IsFirst x A F) : NoBy x A F := by
  intro n i hn ho hc h1 h2
  have hi := hc.1
  have hlo := h.lo
  rcases h.hi with e | e
  · unfold tsec
    omega
  · omega
theorem noBy_skip {x : SpecN} {A : Int} {j : Nat} (h : NoBy x A j) (ho : ¬ On x j) : NoBy x A (j + 1) := by
  intro n i hn h1 h2 h3 h4
  by_cases e : n = j
  · rw [e] at h1; exact absurd h1 ho
  · exact h n i (by omega) h1 h2 h3 h4
theorem noBy_times {x : SpecN} {A : Int} {j : Nat} (h : NoBy x A j) (ht : ∀ i (hi : i < (timesTo x j 1440).length), (timesTo x j 1440)[i] ≤ A) : NoBy x A (j + 1) := by
  intro n i hn h1 h2 h3 h4
  by_cases e : n = j
  · subst e
    have hm : tsec x n i ∈ timesTo x n 1440 := mem_timesTo.2 ⟨i, h2.1, (tok_iff h2.1).2 ⟨h2, h3, h4⟩, rfl⟩
    obtain ⟨k, hk, e⟩ := List.getElem_of_mem hm
    rw [← e]
    exact ht k hk
  · exact h n i (by omega) h1 h2 h3 h4
theorem next_found {x : SpecN} (hr : right x = true) {A : Int} {j : Nat} (h : NoBy x A j) (ho : On x j) {i : Nat} (hi : i < (timesTo x j 1440).length) (hb : ∀ k (hk : k < (timesTo x j 1440).length), k < i → (timesTo x j 1440)[k] ≤ A) (hA : A < (timesTo x j 1440)[i]) : nextN x A = some (timesTo x j 1440)[i] := by
  have hm := List.getElem_mem hi
  obtain ⟨c, c1, c2, c3⟩ := mem_timesTo.1 hm
  obtain ⟨g1, g2, g3⟩ := (tok_iff c1).1 c2
  apply nextN_of
  refine ⟨?_, hA, fun t t1 t2 hat => ?_⟩
  · rw [c3]
    exact ⟨hr, g2, by unfold last; exact g3, j, c, ho, g1, by unfold tsec; omega⟩
  · obtain ⟨n, d, d1, d2, rfl⟩ := at_tsec hat
    have hlo := hat.lo
    have hhi := hat.hi
    unfold last at hhi
    have hd := d2.1
    rcases Nat.lt_trichotomy n j with e | e | e
    · have := h n d e d1 d2 hlo hhi
      omega
    · subst e
      have hm2 : tsec x n d ∈ timesTo x n 1440 := mem_timesTo.2 ⟨d, d2.1, (tok_iff d2.1).2 ⟨d2, hlo, hhi⟩, rfl⟩
      obtain ⟨k, hk, e⟩ := List.getElem_of_mem hm2
      rcases Nat.lt_trichotomy k i with e2 | e2 | e2
      · have := hb k hk e2
        omega
      · subst e2
        omega
      · have := List.pairwise_iff_getElem.1 (timesTo_rises x n 1440) i k hi hk e2
        omega
    · rw [c3] at t2
      unfold tsec at t2
      omega
theorem next_none {x : SpecN} {A : Int} (hA : -1 ≤ A) {F j : Nat} (hF : IsFirst x A F) (h : NoBy x A j) (hj : F + 15000 ≤ j ∨ 2932896 < j) : nextN x A = none := by
  cases hn : nextN x A with
  | none => rfl
  | some s =>
    exfalso
    have hi := nextN_is x A
    rw [hn] at hi
    obtain ⟨n, i, h1, h2, h3, h4⟩ := next_near hA hi.1 hi.2.1 hi.2.2
    have hlt := h1.lt
    have hlo := hi.1.lo
    have hhi := hi.1.hi
    unfold last at hhi
    have e : s = tsec x n i := by unfold tsec; omega
    have hf := hF.lo
    have := h n i (by omega) h1 h2 (by omega) (by omega)
    have := hi.2.1
    omega
theorem first_day (x : SpecN) (A : Int) (hA : -1 ≤ A) (h1 : -899 ≤ x.ahead) (h2 : x.ahead ≤ 899) : ∃ F : Nat, max ((A + 60 * x.ahead).tdiv 86400 - 1) 0 = (F : Int) ∧ IsFirst x A F := by
  have e := tdiv_eq_if (A + 60 * x.ahead) 86400
  refine ⟨(max ((A + 60 * x.ahead).tdiv 86400 - 1) 0).toNat, by omega, ?_, ?_⟩
  · split at e <;> omega
  · split at e <;> omega
theorem ints_any {base : Nat} {w : World} {v : Value} {l : List Int} (h : Ints base w v l) : ∃ p cap, v = .slice p l.length cap ∧ ∀ i (hi : i < l.length), ∃ g, p = some ⟨g, 0, none⟩ ∧ w.cell? ⟨g, i, none⟩ = some (.int .i64 l[i]) := by
  unfold Ints at h
  rcases h.2 with ⟨h1, h2⟩ | ⟨g, cap, cur, h1, hg, hgq, _⟩
  · exact ⟨none, 0, by rw [h1, h2], fun i hi => by omega⟩
  · refine ⟨some ⟨g, 0, none⟩, cap, h1, fun i hi => ⟨g, rfl, ?_⟩⟩
    subst h1
    have hc := h.cells (g := g) rfl i (.int .i64 l[i]) (by simp [intsOf, hi])
    have hadd : (⟨g, 0, none⟩ : Addr).add i = ⟨g, i, none⟩ := by unfold Addr.add; split <;> simp_all
    rw [hadd] at hc
    exact hc
/-- The date of a day as the loop keeps it: none yet, its own, or behind the last one. -/
def Dated (F j y m d : Nat) : Prop := (y = 0 ∧ m = 0 ∧ d = 0 ∧ j = F) ∨ Day j y m d ∨ 2932896 < j
theorem dated_next {F j y m d : Nat} (h : Day j y m d) : (d + 1 ≤ long y m ∧ Dated F (j + 1) y m (d + 1)) ∨ (long y m < d + 1 ∧ m + 1 ≤ 12 ∧ Dated F (j + 1) y (m + 1) 1) ∨ (long y m < d + 1 ∧ 12 < m + 1 ∧ Dated F (j + 1) (y + 1) 1 1) := by
  rcases h.next with ⟨h1, h2⟩ | ⟨h1, h2, h3⟩ | ⟨h1, h2, h3, h4⟩ | ⟨h1, h2, h3, h4⟩
  · exact Or.inl ⟨by omega, Or.inr (Or.inl h2)⟩
  · exact Or.inr (Or.inl ⟨by omega, by omega, Or.inr (Or.inl h3)⟩)
  · exact Or.inr (Or.inr ⟨by omega, by omega, Or.inr (Or.inl h4)⟩)
  · have hl := long_le y h.m1 h.m2
    exact Or.inr (Or.inr ⟨by omega, by omega, Or.inr (Or.inr (by omega))⟩)

def timesOf (x : SpecN) (j : Nat) : List Int := timesTo x j 1440

set_option maxRecDepth 100000 in
set_option maxHeartbeats 1000000 in
theorem refNext_any (x : SpecN) (hx : Fits x) (s : Int) (s1 : -9223372036854775808 ≤ s) (s2 : s ≤ 9223372036854775807) (w : World) :
    Calls Tryz.prog 27 #[specV x, .int .i64 s] w fun e w' => e = answerX (nextN x s) ∧ Below w.heap.size w w' := by
  have Cr := Lib.hid (fun W => right_any x hx W)
  have Cd : Hid (∀ (m d wd : Nat) W, m ≤ 100 → d ≤ 100 → wd ≤ 100 → Calls Tryz.prog 51 #[specV x, .int .i64 m, .int .i64 d, .int .i64 wd] W fun e w' => e = .returned (.bool (day x m d wd)) ∧ Below W.heap.size W w') := fun m d wd W h1 h2 h3 => day_any x hx m d wd W (by omega) (by omega) (by omega) (by omega) (by omega) (by omega)
  have Ct : Hid (-899 ≤ x.ahead → x.ahead ≤ 899 → ∀ (n : Nat) W, n < 2932897 → onB x n = true → Calls Tryz.prog 54 #[specV x, .int .i64 n] W fun e w' => SomeInts (W.heap.size + 1) (timesOf x n) e w' ∧ Below W.heap.size W w') := fun h1 h2 n W h3 h4 => times_any x hx h1 h2 n h3 h4 W
  have Hw : Hid (right x = false → nextN x s = none) := fun h => nextN_bad h s
  have Hlate : Hid (253402300799 ≤ s → nextN x s = none) := fun h => nextN_late x (by unfold last; exact h)
  have Hlow : Hid (nextN x s = nextN x (max s (-1))) := by
    by_cases h : s ≤ -1
    · rw [show max s (-1) = -1 by omega]; exact nextN_low x h
    · rw [show max s (-1) = s by omega]; rfl
  have Ha : Hid (right x = true → -899 ≤ x.ahead ∧ x.ahead ≤ 899) := fun h => (right_parts h).2.2.2.2.2
  have Hd : Hid (∀ n y m d, Day n y m d → onB x n = day x (m : Int) (d : Int) ((n + 4) % 7 : Nat)) := fun n y m d h => on_day h
  obtain ⟨A, hA⟩ : ∃ A, max s (-1) = A := ⟨_, rfl⟩
  have hA1 : -1 ≤ A := by omega
  have hA2 : s < 253402300799 → A < 253402300799 := by omega
  have hA3 : A ≤ 9223372036854775807 := by omega
  rw [hA] at Hlow
  have Hf : Hid (right x = true → ∃ F : Nat, max ((A + 60 * x.ahead).tdiv 86400 - 1) 0 = (F : Int) ∧ IsFirst x A F) := fun h => first_day x A hA1 (Ha.out h).1 (Ha.out h).2
  have Hfb : Hid (∀ F, IsFirst x A F → A < 253402300799 → x.ahead ≤ 899 → F ≤ 2932897) := fun F h h1 h2 => by
    rcases h.hi with e | e
    · omega
    · omega
  have Hst : Hid (∀ F, IsFirst x A F → NoBy x A F) := fun F h => noBy_start h
  have Hskip : Hid (∀ j, NoBy x A j → onB x j = false → NoBy x A (j + 1)) := fun j h1 h2 => noBy_skip h1 (onB_false.1 h2)
  have Htimes : Hid (∀ j, NoBy x A j → (∀ i (hi : i < (timesOf x j).length), (timesOf x j)[i] ≤ A) → NoBy x A (j + 1)) := fun j h1 h2 => noBy_times h1 h2
  have Hfound : Hid (right x = true → ∀ j i (hi : i < (timesOf x j).length), NoBy x A j → onB x j = true → (∀ k (hk : k < (timesOf x j).length), k < i → (timesOf x j)[k] ≤ A) → A < (timesOf x j)[i] → nextN x s = some (timesOf x j)[i]) := fun hr j i hi h1 h2 h3 h4 => by rw [Hlow.out]; exact next_found hr h1 (onB_true.1 h2) hi h3 h4
  have Hnone : Hid (∀ F j, IsFirst x A F → NoBy x A j → F + 15000 ≤ j ∨ 2932896 < j → nextN x s = none) := fun F j h1 h2 h3 => by rw [Hlow.out]; exact next_none hA1 h1 h2 h3
  have Hlen : Hid (∀ j, (timesOf x j).length ≤ 1440) := fun j => timesTo_len x j 1440
  clear Hlow
  generalize nextN x s = res at *
  generalize NoBy x A = NB at *
  generalize IsFirst x A = IF at *
  generalize onB x = OB at *
  generalize timesOf x = TT at *
  generalize day x = D at *
  generalize right x = rt at *
  obtain ⟨x0, x1, x2, x3, x4, x5, x6, x7⟩ := x
  simp only [specV, cellsN] at *
  clear hx
  have B1 := Lib.hid (Box.start w x0 x1 x2 x3 x4 x5 x6 x7)
  have b1 := Lib.hid ((Below.refl w.heap.size w).alloc (Nat.le_refl _) (.cells #[.int .u64 x0, .int .u64 x1, .int .u64 x2, .int .u64 x3, .int .u64 x4, .bool x5, .bool x6, .int .i64 x7] 64))
  go_enter Tryz.func27, Tryz.ntmps27
  go_wp2_with fail
  refine (Cr.out _).mono ?_
  rintro e w1 ⟨rfl, k1⟩
  have B2 := Lib.hid (B1.out.step k1)
  have b2 := Lib.hid (b1.out.trans (k1.mono b1.out.size))
  clear k1 B1 b1 Cr
  cases rt with
  | false =>
    have hres := Lib.hid (Hw.out (by trivial))
    go_wp2_with fail
    go_ret2
    exact ⟨by rw [hres.out]; rfl, b2.out⟩
  | true =>
    obtain ⟨a1, a2⟩ := Ha.out (by trivial)
    obtain ⟨F, hF, hIF⟩ := Hf.out (by trivial)
    have hw64 : wrap64 ((A + 60 * x7).tdiv 86400 - 1) = (A + 60 * x7).tdiv 86400 - 1 := IntWalk.wrap64_in _ (by
      have e := tdiv_eq_if (A + 60 * x7) 86400
      split at e <;> omega)
    replace Hfound := Lib.hid (Hfound.out (by trivial))
    replace Ct := Lib.hid (Ct.out a1 a2)
    clear Ha Hf Hw
    have cl := Lib.hid (refLast_any w1)
    by_cases hl : 253402300799 ≤ s
    · have hres := Lib.hid (Hlate.out hl)
      go_wp2_with fail
      refine cl.out.mono ?_
      rintro e w7 ⟨rfl, rfl⟩
      go_wp2_with fail
      go_ret2
      exact ⟨by rw [hres.out]; rfl, b2.out⟩
    · have hA4 : A < 253402300799 := hA2 (by omega)
      have hF9 : (F : Int) ≤ 2932897 := by have := Hfb.out F hIF hA4 a2; omega
      have hld : decide ((253402300799 : Int) ≤ s) = false := decide_eq_false hl
      clear hl
      have nb0 := Lib.hid (Hst.out F hIF)
      replace hIF := Lib.hid hIF
      clear hA2 Hlate Hst Hfb
      have q7 := B2.out.c7
      go_wp2_with fail
      refine cl.out.mono ?_
      rintro e w7 ⟨rfl, rfl⟩
      go_wp2_with fail
      clear hA hF q7 cl hw64
      obtain ⟨N, hN⟩ : ∃ N : Nat, (F : Int) + 15000 = (N : Int) := ⟨F + 15000, by omega⟩
      go_loopw [7, 8, 9, 10] (fun vy vm vd vj wr => ∃ y m d j : Nat, vy = .int .i64 y ∧ vm = .int .i64 m ∧ vd = .int .i64 d ∧ vj = .int .i64 j ∧ F ≤ j ∧ Hid (Dated F j y m d) ∧ Hid (NB j) ∧ Hid (Box w.heap.size wr x0 x1 x2 x3 x4 x5 x6 x7) ∧ Hid (Below w.heap.size w wr)) (fun _ _ _ vj _ => N - (intOf vj).toNat)
      case atStart => exact ⟨0, 0, 0, F, rfl, rfl, rfl, rfl, Nat.le_refl _, Or.inl ⟨rfl, rfl, rfl, rfl⟩, nb0, B2, b2⟩
      case round =>
        obtain ⟨y, m, d, j, rfl, rfl, rfl, rfl, j1, hdt, hnb, hB, hb⟩ := hrel
        clear B2 b2 nb0
        have cm := Lib.hid (V.most_any wr)
        by_cases h1 : (j : Int) < (N : Int)
        · by_cases h2 : (j : Int) ≤ 2932896
          · have hb2 : decide ((j : Int) ≤ 2932896) = true := decide_eq_true h2
            have hwd : (j + 4) % 7 < 7 := Nat.mod_lt _ (by omega)
            have ewd : Hid ((((j + 4) % 7 : Nat) : Int) = ((j : Int) + 4) % 7) := by unfold Hid; omega
            have cdt := Lib.hid (V.refDate_some j wr (by omega))
            go_wp2_with fail
            refine cm.out.mono ?_
            rintro e w7 ⟨rfl, rfl⟩
            go_upto_if 44 with fail
            go_cut [7, 8, 9] (fun vy vm vd wc => (∃ y' m' d' : Nat, vy = .int .i64 y' ∧ vm = .int .i64 m' ∧ vd = .int .i64 d' ∧ Hid (Day j y' m' d')) ∧ wc = wr)
            case first =>
              rcases hdt.out with ⟨rfl, rfl, rfl, hjF⟩ | hd | hbad
              · clear hjF
                go_wp2_with fail
                refine cdt.out.mono ?_
                rintro e w7 ⟨⟨y, m, d, rfl, hd⟩, rfl⟩
                replace hd := Lib.hid hd
                go_wp2_with fail
                go_meet
                exact ⟨⟨y, m, d, rfl, rfl, rfl, hd⟩, rfl⟩
              · have ey : ((y : Int) == 0) = false := by have := hd.y1; simp; omega
                replace hd := Lib.hid hd
                rw [ey]
                go_wp2_with fail
                go_meet
                exact ⟨⟨y, m, d, rfl, rfl, rfl, hd⟩, rfl⟩
              · omega
            case rest =>
              obtain ⟨⟨y', m', d', rfl, rfl, rfl, hd⟩, hwc⟩ := hcut
              rw [hwc]
              clear hwc hdt cdt cm
              have hm12 := hd.out.m2
              have hy1 := hd.out.y1
              have hy9 := hd.out.y2
              have hm1 := hd.out.m1
              have hdd : d' ≤ 31 := Nat.le_trans hd.out.d2 (long_le y' hd.out.m1 hd.out.m2)
              have c2 := Lib.hid (Cd.out m' d' ((j + 4) % 7) wr (by omega) (by omega) (by omega))
              have hob := Lib.hid (Hd.out j y' m' d' hd.out)
              rw [ewd.out] at c2 hob
              have hnx := Lib.hid (dated_next (F := F) hd.out)
              have cLong : Hid (∀ W, Calls Tryz.prog 55 #[.int .i64 y', .int .i64 m'] W fun e w' => e = .returned (.int .i64 (long y' m' : Nat)) ∧ W = w') := fun W => V.refLong_some y' m' W hy1 hy9 hm1 hm12
              have hlg := long_le y' hm1 hm12
              generalize long y' m' = L at *
              clear hd ewd hwd
              obtain ⟨q0, q1, q2, q3, q4, q5, q6, q7⟩ := hB.out.all
              go_wp2_with fail
              refine c2.out.mono ?_
              rintro e w2 ⟨rfl, k2⟩
              have B3 := Lib.hid (hB.out.step k2)
              have b3 := Lib.hid (hb.out.trans (k2.mono hb.out.size))
              clear k2 c2 q0 q1 q2 q3 q4 q5 q6 q7 hB hb
              rw [← hob.out]
              clear hob
              go_upto_if 58 with fail
              go_cut [11, 12] (fun v1 v2 wc => Hid (NB (j + 1)) ∧ Hid (Box w.heap.size wc x0 x1 x2 x3 x4 x5 x6 x7) ∧ Hid (Below w.heap.size w wc))
              case first =>
                clear hnx cLong
                cases hq : OB j with
                | false =>
                  have nb2 := Lib.hid (Hskip.out j hnb.out hq)
                  clear hq hnb
                  go_wp2_with fail
                  go_meet
                  exact ⟨nb2, B3, b3⟩
                | true =>
                  have ct := Lib.hid (Ct.out j w2 (by omega) hq)
                  replace hq := Lib.hid hq
                  obtain ⟨q0, q1, q2, q3, q4, q5, q6, q7⟩ := B3.out.all
                  go_wp2_with fail
                  refine ct.out.mono ?_
                  rintro e w3 ⟨⟨v, rfl, hints⟩, k3⟩
                  obtain ⟨p, cap, rfl, hcell⟩ := ints_any hints
                  replace hcell := Lib.hid hcell
                  have B4 := Lib.hid (B3.out.step k3)
                  have b4 := Lib.hid (b3.out.trans (k3.mono b3.out.size))
                  have hlen : ((TT j).length : Int) ≤ 1440 := by have := Hlen.out j; omega
                  clear k3 hints ct q0 q1 q2 q3 q4 q5 q6 q7 B3 b3
                  go_wp2_with fail
                  go_loop [12] (fun vi => ∃ i : Nat, i ≤ (TT j).length ∧ vi = .int .i64 i ∧ Hid (∀ k (hk : k < (TT j).length), k < i → (TT j)[k] ≤ A)) (fun vi => 1441 - (intOf vi).toNat)
                  case atStart => exact ⟨0, Nat.zero_le _, rfl, fun k hk h => by omega⟩
                  case round =>
                    obtain ⟨i, hi, rfl, hpre⟩ := hrel
                    by_cases hlt : i < (TT j).length
                    · obtain ⟨g, rfl, hc⟩ := hcell.out i hlt
                      obtain ⟨E, hE⟩ : ∃ E, (TT j)[i] = E := ⟨_, rfl⟩
                      rw [hE] at hc
                      replace hE := Lib.hid hE
                      by_cases hgt : A < E
                      · have fin : Hid (res = some E) := by
                          have := Hfound.out j i hlt hnb.out hq.out hpre.out (by rw [hE.out]; exact hgt)
                          rw [hE.out] at this
                          exact this
                        go_wp2_with fail
                        go_ret2
                        exact ⟨by rw [fin.out]; rfl, b4.out⟩
                      · have pre2 : Hid (∀ k (hk : k < (TT j).length), k < i + 1 → (TT j)[k] ≤ A) := fun k hk h => by
                          by_cases e : k = i
                          · subst e
                            rw [hE.out]
                            omega
                          · exact hpre.out k hk (by omega)
                        go_wp2_with fail
                        exact ⟨⟨i + 1, by omega, by go_num, pre2⟩, by simp [intOf]; omega⟩
                    · have nb2 := Lib.hid (Htimes.out j hnb.out (fun k hk => hpre.out k hk (by omega)))
                      clear hcell hpre hq hnb
                      go_wp2_with fail
                      go_meet
                      exact ⟨nb2, B4, b4⟩
              case rest =>
                obtain ⟨nb2, B5, b5⟩ := hcut
                clear hnb B3 b3
                have cL := Lib.hid (cLong.out wc)
                rcases hnx.out with ⟨g1, g2⟩ | ⟨g1, g2, g3⟩ | ⟨g1, g2, g3⟩
                · replace g2 := Lib.hid g2
                  clear hnx cLong
                  go_wp2_with fail
                  refine cL.out.mono ?_
                  rintro e w7 ⟨rfl, rfl⟩
                  go_wp2_with fail
                  exact ⟨⟨y', m', d' + 1, j + 1, rfl, rfl, by go_num, by go_num, by omega, g2, nb2, B5, b5⟩, by simp [intOf]; omega⟩
                · replace g3 := Lib.hid g3
                  clear hnx cLong
                  go_wp2_with fail
                  refine cL.out.mono ?_
                  rintro e w7 ⟨rfl, rfl⟩
                  go_wp2_with fail
                  exact ⟨⟨y', m' + 1, 1, j + 1, rfl, by go_num, rfl, by go_num, by omega, g3, nb2, B5, b5⟩, by simp [intOf]; omega⟩
                · replace g3 := Lib.hid g3
                  clear hnx cLong
                  go_wp2_with fail
                  refine cL.out.mono ?_
                  rintro e w7 ⟨rfl, rfl⟩
                  go_wp2_with fail
                  exact ⟨⟨y' + 1, 1, 1, j + 1, by go_num, rfl, rfl, by go_num, by omega, g3, nb2, B5, b5⟩, by simp [intOf]; omega⟩
          · have hres := Lib.hid (Hnone.out F j hIF.out hnb.out (Or.inr (by omega)))
            have hb2 : decide ((j : Int) ≤ 2932896) = false := decide_eq_false h2
            clear h2
            go_wp2_with fail
            refine cm.out.mono ?_
            rintro e w7 ⟨rfl, rfl⟩
            go_wp2_with fail
            go_ret2
            exact ⟨by rw [hres.out]; rfl, hb.out⟩
        · have hres := Lib.hid (Hnone.out F j hIF.out hnb.out (Or.inl (by omega)))
          go_wp2_with fail
          go_ret2
          exact ⟨by rw [hres.out]; rfl, hb.out⟩
end Go.Proofs.YtiidhcpflplpiaaGreatDoor
