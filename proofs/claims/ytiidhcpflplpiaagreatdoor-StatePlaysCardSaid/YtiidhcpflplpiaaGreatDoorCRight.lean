/-
  The program's Right (layer 4).
-/
import Derived.Test.YtiidhcpflplpiaaGreatDoorCTab
import Derived.Test.YtiidhcpflplpiaaGreatDoorRight
set_option linter.unusedVariables false
namespace Go.Proofs.YtiidhcpflplpiaaGreatDoor
open Go.RowKit Crn

theorem every_one : ∀ f, f < 5 → bitsN 0 (low f) (top f) 1 = every f 1 := by decide +kernel
theorem index_sets0 (x0 x1 x2 x3 x4 : Nat) (W : World) : (Instr.index 98 (.agg #[.int .u64 x0, .int .u64 x1, .int .u64 x2, .int .u64 x3, .int .u64 x4]) (.int .i64 0)).run Tryz.prog W = .ok (.int .u64 x0) W := by
  kernel_rfl
theorem index_sets1 (x0 x1 x2 x3 x4 : Nat) (W : World) : (Instr.index 98 (.agg #[.int .u64 x0, .int .u64 x1, .int .u64 x2, .int .u64 x3, .int .u64 x4]) (.int .i64 1)).run Tryz.prog W = .ok (.int .u64 x1) W := by
  kernel_rfl
theorem index_sets2 (x0 x1 x2 x3 x4 : Nat) (W : World) : (Instr.index 98 (.agg #[.int .u64 x0, .int .u64 x1, .int .u64 x2, .int .u64 x3, .int .u64 x4]) (.int .i64 2)).run Tryz.prog W = .ok (.int .u64 x2) W := by
  kernel_rfl
theorem index_sets3 (x0 x1 x2 x3 x4 : Nat) (W : World) : (Instr.index 98 (.agg #[.int .u64 x0, .int .u64 x1, .int .u64 x2, .int .u64 x3, .int .u64 x4]) (.int .i64 3)).run Tryz.prog W = .ok (.int .u64 x3) W := by
  kernel_rfl
theorem index_sets4 (x0 x1 x2 x3 x4 : Nat) (W : World) : (Instr.index 98 (.agg #[.int .u64 x0, .int .u64 x1, .int .u64 x2, .int .u64 x3, .int .u64 x4]) (.int .i64 4)).run Tryz.prog W = .ok (.int .u64 x4) W := by
  kernel_rfl

set_option maxRecDepth 100000 in
set_option maxHeartbeats 1000000 in
theorem cRight_any (x : SpecN) (hx : Fits x) (w : World) (tb : Tab w) :
    Calls Tryz.prog 97 #[specV x] w fun e w' => e = .returned (.bool (right x)) ∧ Below w.heap.size w w' := by
  have hr := Lib.hid (right_from x)
  have hso := Lib.hid (fun f hf hs h0 => andNot_okSet f (setAt x f) hf hs h0)
  have l0 := hx.min
  have l1 := hx.hour
  have l2 := hx.dom
  have l3 := hx.mon
  have l4 := hx.dow
  have ha := hx.a1
  have hb := hx.a2
  generalize right x = res at *
  rw [okFrom_by] at hr
  obtain ⟨x0, x1, x2, x3, x4, x5, x6, x7⟩ := x
  simp only [specV, cellsN] at *
  have ce0 : Hid (∀ W, Calls Tryz.prog 123 #[.agg #[.int .i64 0, .int .i64 59], .int .i64 1] W fun e w' => e = .returned (.int .u64 (every 0 1 : Nat)) ∧ Below W.heap.size W w') := fun W => by
    have := every_any (low 0) (top 0) 1 W (by decide) (by decide) (by omega) (by omega)
    rw [every_one 0 (by omega)] at this
    exact this
  have ea0 : Hid (x0 ≠ 0 → (bits .andNot .u64 (x0 : Int) ((every 0 1 : Nat) : Int) != 0) = !okSet 0 x0) := fun h => hso.out 0 (by omega) l0 h
  have oz0 : Hid (x0 = 0 → okSet 0 x0 = false) := fun h => by
    unfold okSet
    rw [h]
    exact rfl
  have st0 : Hid (okBy (setAt ⟨x0, x1, x2, x3, x4, x5, x6, x7⟩) 5 0 = (okSet 0 x0 && okBy (setAt ⟨x0, x1, x2, x3, x4, x5, x6, x7⟩) 4 1)) := rfl
  generalize okSet 0 x0 = ok0 at *
  generalize every 0 1 = E0 at *
  have ce1 : Hid (∀ W, Calls Tryz.prog 123 #[.agg #[.int .i64 0, .int .i64 23], .int .i64 1] W fun e w' => e = .returned (.int .u64 (every 1 1 : Nat)) ∧ Below W.heap.size W w') := fun W => by
    have := every_any (low 1) (top 1) 1 W (by decide) (by decide) (by omega) (by omega)
    rw [every_one 1 (by omega)] at this
    exact this
  have ea1 : Hid (x1 ≠ 0 → (bits .andNot .u64 (x1 : Int) ((every 1 1 : Nat) : Int) != 0) = !okSet 1 x1) := fun h => hso.out 1 (by omega) l1 h
  have oz1 : Hid (x1 = 0 → okSet 1 x1 = false) := fun h => by
    unfold okSet
    rw [h]
    exact rfl
  have st1 : Hid (okBy (setAt ⟨x0, x1, x2, x3, x4, x5, x6, x7⟩) 4 1 = (okSet 1 x1 && okBy (setAt ⟨x0, x1, x2, x3, x4, x5, x6, x7⟩) 3 2)) := rfl
  generalize okSet 1 x1 = ok1 at *
  generalize every 1 1 = E1 at *
  have ce2 : Hid (∀ W, Calls Tryz.prog 123 #[.agg #[.int .i64 1, .int .i64 31], .int .i64 1] W fun e w' => e = .returned (.int .u64 (every 2 1 : Nat)) ∧ Below W.heap.size W w') := fun W => by
    have := every_any (low 2) (top 2) 1 W (by decide) (by decide) (by omega) (by omega)
    rw [every_one 2 (by omega)] at this
    exact this
  have ea2 : Hid (x2 ≠ 0 → (bits .andNot .u64 (x2 : Int) ((every 2 1 : Nat) : Int) != 0) = !okSet 2 x2) := fun h => hso.out 2 (by omega) l2 h
  have oz2 : Hid (x2 = 0 → okSet 2 x2 = false) := fun h => by
    unfold okSet
    rw [h]
    exact rfl
  have st2 : Hid (okBy (setAt ⟨x0, x1, x2, x3, x4, x5, x6, x7⟩) 3 2 = (okSet 2 x2 && okBy (setAt ⟨x0, x1, x2, x3, x4, x5, x6, x7⟩) 2 3)) := rfl
  generalize okSet 2 x2 = ok2 at *
  generalize every 2 1 = E2 at *
  have ce3 : Hid (∀ W, Calls Tryz.prog 123 #[.agg #[.int .i64 1, .int .i64 12], .int .i64 1] W fun e w' => e = .returned (.int .u64 (every 3 1 : Nat)) ∧ Below W.heap.size W w') := fun W => by
    have := every_any (low 3) (top 3) 1 W (by decide) (by decide) (by omega) (by omega)
    rw [every_one 3 (by omega)] at this
    exact this
  have ea3 : Hid (x3 ≠ 0 → (bits .andNot .u64 (x3 : Int) ((every 3 1 : Nat) : Int) != 0) = !okSet 3 x3) := fun h => hso.out 3 (by omega) l3 h
  have oz3 : Hid (x3 = 0 → okSet 3 x3 = false) := fun h => by
    unfold okSet
    rw [h]
    exact rfl
  have st3 : Hid (okBy (setAt ⟨x0, x1, x2, x3, x4, x5, x6, x7⟩) 2 3 = (okSet 3 x3 && okBy (setAt ⟨x0, x1, x2, x3, x4, x5, x6, x7⟩) 1 4)) := rfl
  generalize okSet 3 x3 = ok3 at *
  generalize every 3 1 = E3 at *
  have ce4 : Hid (∀ W, Calls Tryz.prog 123 #[.agg #[.int .i64 0, .int .i64 6], .int .i64 1] W fun e w' => e = .returned (.int .u64 (every 4 1 : Nat)) ∧ Below W.heap.size W w') := fun W => by
    have := every_any (low 4) (top 4) 1 W (by decide) (by decide) (by omega) (by omega)
    rw [every_one 4 (by omega)] at this
    exact this
  have ea4 : Hid (x4 ≠ 0 → (bits .andNot .u64 (x4 : Int) ((every 4 1 : Nat) : Int) != 0) = !okSet 4 x4) := fun h => hso.out 4 (by omega) l4 h
  have oz4 : Hid (x4 = 0 → okSet 4 x4 = false) := fun h => by
    unfold okSet
    rw [h]
    exact rfl
  have st4 : Hid (okBy (setAt ⟨x0, x1, x2, x3, x4, x5, x6, x7⟩) 1 4 = (okSet 4 x4 && okBy (setAt ⟨x0, x1, x2, x3, x4, x5, x6, x7⟩) 0 5)) := rfl
  generalize okSet 4 x4 = ok4 at *
  generalize every 4 1 = E4 at *
  have st5 : Hid (okBy (setAt ⟨x0, x1, x2, x3, x4, x5, x6, x7⟩) 0 5 = true) := rfl
  clear hso
  generalize setAt ⟨x0, x1, x2, x3, x4, x5, x6, x7⟩ = g at *
  have b1 := Lib.hid ((Below.refl w.heap.size w).alloc (Nat.le_refl _) (.cells #[.int .u64 x0, .int .u64 x1, .int .u64 x2, .int .u64 x3, .int .u64 x4, .bool x5, .bool x6, .int .i64 x7] 64))
  have hbx : Hid ((w.alloc (.cells #[.int .u64 x0, .int .u64 x1, .int .u64 x2, .int .u64 x3, .int .u64 x4, .bool x5, .bool x6, .int .i64 x7] 64)).cell? ⟨w.heap.size, 7, none⟩ = some (.int .i64 x7)) := by rw [World.cell?_alloc_new]; rfl
  have tb1 := Lib.hid (tb.alloc (.cells #[.int .u64 x0, .int .u64 x1, .int .u64 x2, .int .u64 x3, .int .u64 x4, .bool x5, .bool x6, .int .i64 x7] 64))
  clear tb
  go_enter Tryz.func97, Tryz.ntmps97
  go_wp2_with fail
  go_loopw [16] (fun i wr => ∃ k : Nat, k ≤ 5 ∧ i = .int .i64 k ∧ Hid (okBy g (5 - k) k = okBy g 5 0) ∧ Hid (wr.cell? ⟨w.heap.size, 7, none⟩ = some (.int .i64 x7)) ∧ Hid (Tab wr) ∧ Hid (Below w.heap.size w wr)) (fun i _ => 5 - (intOf i).toNat)
  case atStart => exact ⟨0, by omega, rfl, rfl, hbx, tb1, b1⟩
  case round =>
    obtain ⟨k, hk, rfl, hok, hx7, htb, hbw⟩ := hrel
    clear b1 hbx tb1
    have hxl := World.block_lt_of_cell? wr _ hx7.out
    have : k = 0 ∨ k = 1 ∨ k = 2 ∨ k = 3 ∨ k = 4 ∨ k = 5 := by omega
    clear hk
    rcases this with rfl | rfl | rfl | rfl | rfl | rfl
    · have hix := index_sets0 x0 x1 x2 x3 x4 wr
      have ca : wr.cell? ⟨0, 0, none⟩ = some (.int .i64 0) := (htb.out.spans 0 (by omega)).1
      have cb : wr.cell? ⟨0, 1, none⟩ = some (.int .i64 59) := (htb.out.spans 0 (by omega)).2
      by_cases hv0 : x0 = 0
      · have e0 : ((x0 : Int) == 0) = true := by simp; omega
        have hres : Hid (res = false) := by
          rw [hr.out, st0.out, oz0.out hv0]
          exact rfl
        clear hv0
        go_wp2_with fail
        go_ret
        exact ⟨by rw [hres.out]; rfl, hbw.out⟩
      · have e0 : ((x0 : Int) == 0) = false := by simp; omega
        have ea := ea0.out hv0
        clear hv0
        go_wp2_with fail
        refine (ce0.out _).mono ?_
        rintro e w6 ⟨rfl, k6⟩
        have b6 := Lib.hid (hbw.out.trans (k6.mono hbw.out.size))
        have hx8 : Hid (w6.cell? ⟨w.heap.size, 7, none⟩ = some (.int .i64 x7)) := (k6.cell (p := ⟨w.heap.size, 7, none⟩) hxl).trans hx7.out
        have tb6 := Lib.hid (htb.out.below k6)
        clear k6 ca cb hix
        cases ok0
        · have hres : Hid (res = false) := by
            rw [hr.out, st0.out]
            exact rfl
          simp only [Bool.not_false] at ea
          go_wp2_with fail
          go_ret
          exact ⟨by rw [hres.out]; rfl, b6.out⟩
        · have hnext : Hid (okBy g (5 - 1) 1 = okBy g 5 0) := by
            rw [st0.out]
            exact rfl
          simp only [Bool.not_true] at ea
          go_wp2_with fail
          exact ⟨⟨1, by omega, by go_num, hnext, hx8, tb6, b6⟩, by simp [intOf]⟩
    · have hix := index_sets1 x0 x1 x2 x3 x4 wr
      have ca : wr.cell? ⟨0, 2, none⟩ = some (.int .i64 0) := (htb.out.spans 1 (by omega)).1
      have cb : wr.cell? ⟨0, 3, none⟩ = some (.int .i64 23) := (htb.out.spans 1 (by omega)).2
      by_cases hv0 : x1 = 0
      · have e0 : ((x1 : Int) == 0) = true := by simp; omega
        have hres : Hid (res = false) := by
          rw [hr.out, ← hok.out, st1.out, oz1.out hv0]
          exact rfl
        clear hv0
        go_wp2_with fail
        go_ret
        exact ⟨by rw [hres.out]; rfl, hbw.out⟩
      · have e0 : ((x1 : Int) == 0) = false := by simp; omega
        have ea := ea1.out hv0
        clear hv0
        go_wp2_with fail
        refine (ce1.out _).mono ?_
        rintro e w6 ⟨rfl, k6⟩
        have b6 := Lib.hid (hbw.out.trans (k6.mono hbw.out.size))
        have hx8 : Hid (w6.cell? ⟨w.heap.size, 7, none⟩ = some (.int .i64 x7)) := (k6.cell (p := ⟨w.heap.size, 7, none⟩) hxl).trans hx7.out
        have tb6 := Lib.hid (htb.out.below k6)
        clear k6 ca cb hix
        cases ok1
        · have hres : Hid (res = false) := by
            rw [hr.out, ← hok.out, st1.out]
            exact rfl
          simp only [Bool.not_false] at ea
          go_wp2_with fail
          go_ret
          exact ⟨by rw [hres.out]; rfl, b6.out⟩
        · have hnext : Hid (okBy g (5 - 2) 2 = okBy g 5 0) := by
            rw [← hok.out, st1.out]
            exact rfl
          simp only [Bool.not_true] at ea
          go_wp2_with fail
          exact ⟨⟨2, by omega, by go_num, hnext, hx8, tb6, b6⟩, by simp [intOf]⟩
    · have hix := index_sets2 x0 x1 x2 x3 x4 wr
      have ca : wr.cell? ⟨0, 4, none⟩ = some (.int .i64 1) := (htb.out.spans 2 (by omega)).1
      have cb : wr.cell? ⟨0, 5, none⟩ = some (.int .i64 31) := (htb.out.spans 2 (by omega)).2
      by_cases hv0 : x2 = 0
      · have e0 : ((x2 : Int) == 0) = true := by simp; omega
        have hres : Hid (res = false) := by
          rw [hr.out, ← hok.out, st2.out, oz2.out hv0]
          exact rfl
        clear hv0
        go_wp2_with fail
        go_ret
        exact ⟨by rw [hres.out]; rfl, hbw.out⟩
      · have e0 : ((x2 : Int) == 0) = false := by simp; omega
        have ea := ea2.out hv0
        clear hv0
        go_wp2_with fail
        refine (ce2.out _).mono ?_
        rintro e w6 ⟨rfl, k6⟩
        have b6 := Lib.hid (hbw.out.trans (k6.mono hbw.out.size))
        have hx8 : Hid (w6.cell? ⟨w.heap.size, 7, none⟩ = some (.int .i64 x7)) := (k6.cell (p := ⟨w.heap.size, 7, none⟩) hxl).trans hx7.out
        have tb6 := Lib.hid (htb.out.below k6)
        clear k6 ca cb hix
        cases ok2
        · have hres : Hid (res = false) := by
            rw [hr.out, ← hok.out, st2.out]
            exact rfl
          simp only [Bool.not_false] at ea
          go_wp2_with fail
          go_ret
          exact ⟨by rw [hres.out]; rfl, b6.out⟩
        · have hnext : Hid (okBy g (5 - 3) 3 = okBy g 5 0) := by
            rw [← hok.out, st2.out]
            exact rfl
          simp only [Bool.not_true] at ea
          go_wp2_with fail
          exact ⟨⟨3, by omega, by go_num, hnext, hx8, tb6, b6⟩, by simp [intOf]⟩
    · have hix := index_sets3 x0 x1 x2 x3 x4 wr
      have ca : wr.cell? ⟨0, 6, none⟩ = some (.int .i64 1) := (htb.out.spans 3 (by omega)).1
      have cb : wr.cell? ⟨0, 7, none⟩ = some (.int .i64 12) := (htb.out.spans 3 (by omega)).2
      by_cases hv0 : x3 = 0
      · have e0 : ((x3 : Int) == 0) = true := by simp; omega
        have hres : Hid (res = false) := by
          rw [hr.out, ← hok.out, st3.out, oz3.out hv0]
          exact rfl
        clear hv0
        go_wp2_with fail
        go_ret
        exact ⟨by rw [hres.out]; rfl, hbw.out⟩
      · have e0 : ((x3 : Int) == 0) = false := by simp; omega
        have ea := ea3.out hv0
        clear hv0
        go_wp2_with fail
        refine (ce3.out _).mono ?_
        rintro e w6 ⟨rfl, k6⟩
        have b6 := Lib.hid (hbw.out.trans (k6.mono hbw.out.size))
        have hx8 : Hid (w6.cell? ⟨w.heap.size, 7, none⟩ = some (.int .i64 x7)) := (k6.cell (p := ⟨w.heap.size, 7, none⟩) hxl).trans hx7.out
        have tb6 := Lib.hid (htb.out.below k6)
        clear k6 ca cb hix
        cases ok3
        · have hres : Hid (res = false) := by
            rw [hr.out, ← hok.out, st3.out]
            exact rfl
          simp only [Bool.not_false] at ea
          go_wp2_with fail
          go_ret
          exact ⟨by rw [hres.out]; rfl, b6.out⟩
        · have hnext : Hid (okBy g (5 - 4) 4 = okBy g 5 0) := by
            rw [← hok.out, st3.out]
            exact rfl
          simp only [Bool.not_true] at ea
          go_wp2_with fail
          exact ⟨⟨4, by omega, by go_num, hnext, hx8, tb6, b6⟩, by simp [intOf]⟩
    · have hix := index_sets4 x0 x1 x2 x3 x4 wr
      have ca : wr.cell? ⟨0, 8, none⟩ = some (.int .i64 0) := (htb.out.spans 4 (by omega)).1
      have cb : wr.cell? ⟨0, 9, none⟩ = some (.int .i64 6) := (htb.out.spans 4 (by omega)).2
      by_cases hv0 : x4 = 0
      · have e0 : ((x4 : Int) == 0) = true := by simp; omega
        have hres : Hid (res = false) := by
          rw [hr.out, ← hok.out, st4.out, oz4.out hv0]
          exact rfl
        clear hv0
        go_wp2_with fail
        go_ret
        exact ⟨by rw [hres.out]; rfl, hbw.out⟩
      · have e0 : ((x4 : Int) == 0) = false := by simp; omega
        have ea := ea4.out hv0
        clear hv0
        go_wp2_with fail
        refine (ce4.out _).mono ?_
        rintro e w6 ⟨rfl, k6⟩
        have b6 := Lib.hid (hbw.out.trans (k6.mono hbw.out.size))
        have hx8 : Hid (w6.cell? ⟨w.heap.size, 7, none⟩ = some (.int .i64 x7)) := (k6.cell (p := ⟨w.heap.size, 7, none⟩) hxl).trans hx7.out
        have tb6 := Lib.hid (htb.out.below k6)
        clear k6 ca cb hix
        cases ok4
        · have hres : Hid (res = false) := by
            rw [hr.out, ← hok.out, st4.out]
            exact rfl
          simp only [Bool.not_false] at ea
          go_wp2_with fail
          go_ret
          exact ⟨by rw [hres.out]; rfl, b6.out⟩
        · have hnext : Hid (okBy g (5 - 5) 5 = okBy g 5 0) := by
            rw [← hok.out, st4.out]
            exact rfl
          simp only [Bool.not_true] at ea
          go_wp2_with fail
          exact ⟨⟨5, by omega, by go_num, hnext, hx8, tb6, b6⟩, by simp [intOf]⟩
    · have hx7' := hx7.out
      have hres : Hid (res = decide (-899 ≤ x7 ∧ x7 ≤ 899)) := by
        rw [hr.out, ← hok.out, st5.out]
        exact rfl
      clear hx7
      by_cases hc : -899 ≤ x7
      · have hd : Hid (decide (-899 ≤ x7 ∧ x7 ≤ 899) = decide (x7 ≤ 899)) := by simp [Hid, hc]
        go_wp2_with fail
        go_ret
        exact ⟨ret_bool (by rw [hres.out, hd.out]), hbw.out⟩
      · have hd : Hid (decide (-899 ≤ x7 ∧ x7 ≤ 899) = false) := by simp [Hid, hc]
        go_wp2_with fail
        go_ret
        exact ⟨ret_bool (by rw [hres.out, hd.out]), hbw.out⟩
end Go.Proofs.YtiidhcpflplpiaaGreatDoor
