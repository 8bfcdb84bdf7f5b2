/-
  The document's ahead (layer 4): the sixth field.
-/
import Derived.Test.YtiidhcpflplpiaaGreatDoorField
import Derived.Deep.QuietTactic
import Derived.BigQuiet
import Derived.WalkSmall
namespace Go.Proofs.YtiidhcpflplpiaaGreatDoor
open Go.RowKit Crn

/-- What ahead answers. -/
def answerZ (r : Option Int) : Ending := .returned (.tuple #[.int .i64 (r.getD 0), .bool r.isSome])

theorem number_q (s : ByteArray) (hs : s.size ≤ 1000) (w : World) (n : Nat) : Calls Tryz.prog 64 #[.string s] (w.drewN n) fun e w' => e = .returned (.int .i64 (orNone (number s.data.toList))) ∧ ∃ m, w' = w.drewN m :=
  (number_any s _ hs).mono fun _ _ ⟨he, hw⟩ => ⟨he, n, hw.symm⟩

theorem ahead_short {l : Bytes} (h : ¬ l.length = 5) : aheadN l = none := by
  match l with
  | [] => rfl
  | [_] => rfl
  | [_, _] => rfl
  | [_, _, _] => rfl
  | [_, _, _, _] => rfl
  | [_, _, _, _, _] => simp at h
  | _ :: _ :: _ :: _ :: _ :: _ :: _ => rfl

def aheadXY (g : UInt8) (x y : Option Nat) : Option Int :=
  if g = 43 ∨ g = 45 then
    match x, y with
    | some h, some m => if h ≤ 14 ∧ m ≤ 59 then some (if g = 45 then -(60 * (h : Int)) - m else 60 * (h : Int) + m) else none
    | _, _ => none
  else none
theorem ahead_xy (g h1 h2 m1 m2 : UInt8) : aheadN [g, h1, h2, m1, m2] = aheadXY g (number [h1, h2]) (number [m1, m2]) := rfl
theorem aheadXY_left (g : UInt8) (y : Option Nat) : aheadXY g none y = none := by unfold aheadXY; split <;> rfl
theorem aheadXY_right (g : UInt8) (x : Option Nat) : aheadXY g x none = none := by unfold aheadXY; cases x <;> (split <;> rfl)
theorem aheadXY_big (g : UInt8) (a b : Nat) (h : ¬ (a ≤ 14 ∧ b ≤ 59)) : aheadXY g (some a) (some b) = none := by
  unfold aheadXY
  split
  · exact if_neg h
  · rfl

/-- The sixth field by what its numbers are (-1: none). -/
theorem ahead_val (g : UInt8) (x y : Option Nat) :
    (¬ (g = 43 ∨ g = 45) → aheadXY g x y = none) ∧
    (orNone x < 0 → aheadXY g x y = none) ∧ (14 < orNone x → aheadXY g x y = none) ∧
    (orNone y < 0 → aheadXY g x y = none) ∧ (59 < orNone y → aheadXY g x y = none) ∧
    (g = 43 → 0 ≤ orNone x → orNone x ≤ 14 → 0 ≤ orNone y → orNone y ≤ 59 → aheadXY g x y = some (60 * orNone x + orNone y)) ∧
    (g = 45 → 0 ≤ orNone x → orNone x ≤ 14 → 0 ≤ orNone y → orNone y ≤ 59 → aheadXY g x y = some (-60 * orNone x - orNone y)) := by
  cases x with
  | none =>
    rw [aheadXY_left]
    refine ⟨fun _ => rfl, fun _ => rfl, fun _ => rfl, fun _ => rfl, fun _ => rfl, ?_, ?_⟩ <;> (intro _ h; simp [orNone] at h)
  | some a =>
    cases y with
    | none =>
      rw [aheadXY_right]
      refine ⟨fun _ => rfl, fun _ => rfl, fun _ => rfl, fun _ => rfl, fun _ => rfl, ?_, ?_⟩ <;> (intro _ _ _ h; simp [orNone] at h)
    | some b =>
      simp only [orNone]
      refine ⟨fun h => if_neg h, fun h => by omega, fun h => aheadXY_big _ _ _ (by omega), fun h => by omega, fun h => aheadXY_big _ _ _ (by omega), fun h _ _ _ _ => ?_, fun h _ _ _ _ => ?_⟩
      · subst h
        unfold aheadXY
        rw [if_pos (Or.inl rfl)]
        simp only []
        rw [if_pos (by omega), if_neg (by decide)]
      · subst h
        unfold aheadXY
        rw [if_pos (Or.inr rfl)]
        simp only []
        rw [if_pos (by omega)]
        congr 1

set_option maxRecDepth 100000 in
set_option maxHeartbeats 400000 in
theorem ahead_any (s : ByteArray) (w : World) (_hs : s.size ≤ 1000) :
    Calls Tryz.prog 47 #[.string s] w fun e w' => e = answerZ (aheadN s.data.toList) ∧ Below w.heap.size w w' := by
  by_cases h5 : s.size = 5
  · match hl : s.data.toList, (show s.data.toList.length = 5 by simpa using h5) with
    | [g, h1, h2, m1, m2], _ =>
      have hg : s[0].toNat = g.toNat := by
        have h0 : 0 < s.data.toList.length := by rw [hl]; simp
        have : s.data.toList[0] = g := by simp [hl]
        exact congrArg UInt8.toNat this
      have x1 : s.extract 1 3 = bs [h1, h2] := by rw [extract_bs, hl]; rfl
      have x2 : s.extract 3 5 = bs [m1, m2] := by rw [extract_bs, hl]; rfl
      have hv := Lib.hid (ahead_val g (number [h1, h2]) (number [m1, m2]))
      rw [ahead_xy]
      have z1 := orNone_bound [h1, h2]
      have z2 := orNone_bound [m1, m2]
      have c1 := Lib.hid (fun W n => number_q (bs [h1, h2]) (by rw [bs_size]; simp) W n)
      have c2 := Lib.hid (fun W n => number_q (bs [m1, m2]) (by rw [bs_size]; simp) W n)
      rw [bs_toList] at c1 c2
      generalize aheadXY g (number [h1, h2]) (number [m1, m2]) = res at *
      generalize orNone (number [h1, h2]) = za at *
      generalize orNone (number [m1, m2]) = zb at *
      generalize bs [h1, h2] = A at *
      generalize bs [m1, m2] = B at *
      clear hl
      have e5 : ((s.size : Int) != 5) = false := by simp; omega
      by_cases hgs : g = 43 ∨ g = 45
      · rcases hgs with rfl | rfl
        · have hg' : s[0].toNat = 43 := by simpa using hg
          clear hg
          go_enter Tryz.func47, Tryz.ntmps47
          go_wp2_with fail
          go_quiet (first | (go_at_call 64; with_reducible exact c1.out _ _) | (go_at_call 64; with_reducible exact c2.out _ _))
          have b2 := Lib.hid (below_drewN (Below.refl w.heap.size w) nq)
          generalize w.drewN nq = w2 at *
          by_cases a1 : za < 0
          · have hres := Lib.hid (hv.out.2.1 a1)
            clear hv
            go_wp2_with fail
            go_ret2
            exact ⟨by rw [hres.out]; rfl, b2.out⟩
          · by_cases a2 : 14 < za
            · have hres := Lib.hid (hv.out.2.2.1 a2)
              clear hv
              go_wp2_with fail
              go_ret2
              exact ⟨by rw [hres.out]; rfl, b2.out⟩
            · by_cases a3 : zb < 0
              · have hres := Lib.hid (hv.out.2.2.2.1 a3)
                clear hv
                go_wp2_with fail
                go_ret2
                exact ⟨by rw [hres.out]; rfl, b2.out⟩
              · by_cases a4 : 59 < zb
                · have hres := Lib.hid (hv.out.2.2.2.2.1 a4)
                  clear hv
                  go_wp2_with fail
                  go_ret2
                  exact ⟨by rw [hres.out]; rfl, b2.out⟩
                · have hres := Lib.hid (hv.out.2.2.2.2.2.1 (by trivial) (by omega) (by omega) (by omega) (by omega))
                  clear hv
                  go_wp2_with fail
                  go_ret2
                  exact ⟨by rw [hres.out]; rfl, b2.out⟩
        · have hg' : s[0].toNat = 45 := by simpa using hg
          clear hg
          go_enter Tryz.func47, Tryz.ntmps47
          go_wp2_with fail
          go_quiet (first | (go_at_call 64; with_reducible exact c1.out _ _) | (go_at_call 64; with_reducible exact c2.out _ _))
          have b2 := Lib.hid (below_drewN (Below.refl w.heap.size w) nq)
          generalize w.drewN nq = w2 at *
          by_cases a1 : za < 0
          · have hres := Lib.hid (hv.out.2.1 a1)
            clear hv
            go_wp2_with fail
            go_ret2
            exact ⟨by rw [hres.out]; rfl, b2.out⟩
          · by_cases a2 : 14 < za
            · have hres := Lib.hid (hv.out.2.2.1 a2)
              clear hv
              go_wp2_with fail
              go_ret2
              exact ⟨by rw [hres.out]; rfl, b2.out⟩
            · by_cases a3 : zb < 0
              · have hres := Lib.hid (hv.out.2.2.2.1 a3)
                clear hv
                go_wp2_with fail
                go_ret2
                exact ⟨by rw [hres.out]; rfl, b2.out⟩
              · by_cases a4 : 59 < zb
                · have hres := Lib.hid (hv.out.2.2.2.2.1 a4)
                  clear hv
                  go_wp2_with fail
                  go_ret2
                  exact ⟨by rw [hres.out]; rfl, b2.out⟩
                · have hres := Lib.hid (hv.out.2.2.2.2.2.2 (by trivial) (by omega) (by omega) (by omega) (by omega))
                  clear hv
                  go_wp2_with fail
                  go_ret2
                  exact ⟨by rw [hres.out]; rfl, b2.out⟩
      · have hres := Lib.hid (hv.out.1 hgs)
        have e43 : ((g.toNat : Int) != 43) = true := bne_iff_ne.2 (fun e => hgs (Or.inl (UInt8.toNat_inj.1 (by simp; omega))))
        have e45 : ((g.toNat : Int) != 45) = true := bne_iff_ne.2 (fun e => hgs (Or.inr (UInt8.toNat_inj.1 (by simp; omega))))
        clear hgs hv
        go_enter Tryz.func47, Tryz.ntmps47
        go_wp2_with fail
        go_ret2
        exact ⟨by rw [hres.out]; rfl, Below.refl _ _⟩
  · have hr := Lib.hid (ahead_short (l := s.data.toList) (by simpa using h5))
    have e5 : ((s.size : Int) != 5) = true := by simp; omega
    clear h5
    go_enter Tryz.func47, Tryz.ntmps47
    go_wp2_with fail
    go_ret2
    exact ⟨by rw [hr.out]; rfl, Below.refl _ _⟩
end Go.Proofs.YtiidhcpflplpiaaGreatDoor
