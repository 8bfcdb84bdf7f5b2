/-
  The program's small and parseAhead (layer 4).
-/
import Derived.Test.YtiidhcpflplpiaaGreatDoorCNum
import Derived.Test.YtiidhcpflplpiaaGreatDoorPlace
import Derived.Test.YtiidhcpflplpiaaGreatDoorSix
set_option linter.unusedVariables false
namespace Go.Proofs.YtiidhcpflplpiaaGreatDoor
open Go.RowKit Crn

set_option maxRecDepth 100000 in
set_option maxHeartbeats 400000 in
theorem cSmall_any (s : ByteArray) (w : World) (hs : s.size ≤ 1000) :
    Calls Tryz.prog 184 #[.string s] w fun e w' => e = .returned (.string (bs (small s.data.toList))) ∧ Below w.heap.size w w' := by
  obtain ⟨cap, w5, hcv, b5, f5⟩ := bytes_of w s
  replace b5 := Lib.hid b5
  replace f5 := Lib.hid f5
  have hlen : s.data.toList.length = s.size := by simp
  go_enter Tryz.func184, Tryz.ntmps184
  go_wp2_with fail
  clear hcv
  go_loopw [10] (fun i wr => ∃ k : Nat, k ≤ s.size ∧ i = .int .i64 k ∧ Hid (Buf wr w.heap.size (mapTo small1 s.data.toList k)) ∧ Hid (Below w.heap.size w wr)) (fun i _ => s.size - (intOf i).toNat)
  case atStart => exact ⟨0, by omega, rfl, by rw [mapTo_zero]; exact f5, b5⟩
  case round =>
    obtain ⟨k, hk, rfl, hf, hb⟩ := hrel
    clear f5 b5
    by_cases hlt : k < s.size
    · have hl : k < s.data.toList.length := by omega
      have hc : wr.cell? ⟨w.heap.size, k, none⟩ = some (.int .u8 (s.data.toList[k].toNat : Nat)) := by
        have h1 : k < (mapTo small1 s.data.toList k).length := by rw [mapTo_len]; exact hl
        rw [hf.out.1 k h1, mapTo_get _ _ _ hl]
      have hz : wr.frozen? ⟨w.heap.size, k, none⟩ = false := hf.out.2 k (by rw [mapTo_len]; exact hl)
      have hset := Lib.hid (mapTo_set small1 s.data.toList k hl)
      have hsame := Lib.hid (mapTo_same small1 s.data.toList k hl)
      have hbig := Lib.hid (@small1_big s.data.toList[k])
      have hnot := Lib.hid (@small1_not s.data.toList[k])
      generalize s.data.toList[k] = x at *
      have hx := UInt8.toNat_lt x
      by_cases g1 : 65 ≤ x.toNat
      · by_cases g2 : x.toNat ≤ 90
        · have hv := Lib.hid (hbig.out g1 g2)
          go_wp2_with fail
          refine ⟨⟨k + 1, by omega, by go_num, ?_, hb.out.setCell (Nat.le_refl _) _⟩, by simp [intOf]; omega⟩
          rw [← hset.out]
          exact hf.out.set (by rw [mapTo_len]; exact hl) (small1 x) (by have := hv.out; omega)
        · have hn := Lib.hid (hsame.out (hnot.out (by omega)))
          go_wp2_with fail
          exact ⟨⟨k + 1, by omega, by go_num, by rw [hn.out]; exact hf, hb⟩, by simp [intOf]; omega⟩
      · have hn := Lib.hid (hsame.out (hnot.out (by omega)))
        go_wp2_with fail
        exact ⟨⟨k + 1, by omega, by go_num, by rw [hn.out]; exact hf, hb⟩, by simp [intOf]; omega⟩
    · have hcv := Buf.text hf.out s.size cap (by rw [mapTo_len]; omega)
      have he : Hid (mapTo small1 s.data.toList k = small s.data.toList) := by
        have : k = s.data.toList.length := by omega
        rw [this]
        exact mapTo_end small1 _
      go_wp2_with fail
      go_ret
      exact ⟨by rw [← he.out]; rfl, hb.out⟩

theorem ret_z {x y : Int} (h : x = y) : Ending.returned (.tuple #[.int .i64 x, .bool true]) = answerZ (some y) := by rw [h]; rfl

set_option maxRecDepth 100000 in
set_option maxHeartbeats 4000000 in
theorem parseAhead_any (s : ByteArray) (w : World) (_hs : s.size ≤ 1000) :
    Calls Tryz.prog 96 #[.string s] w fun e w' => e = answerZ (aheadN s.data.toList) ∧ w = w' := by
  by_cases h5 : s.size = 5
  · match hl : s.data.toList, (show s.data.toList.length = 5 by simpa using h5) with
    | [g, h1, h2, m1, m2], _ =>
      have hg : s[0].toNat = g.toNat := by
        have h0 : 0 < s.data.toList.length := by rw [hl]; simp
        have : s.data.toList[0] = g := by simp [hl]
        exact congrArg UInt8.toNat this
      have x1 : s.extract 1 3 = bs [h1, h2] := by rw [extract_bs, hl]; rfl
      have x2 : s.extract 3 5 = bs [m1, m2] := by rw [extract_bs, hl]; rfl
      rw [ahead_xy]
      have hl1 := Lib.hid (fun y => aheadXY_left g y)
      have hl2 := Lib.hid (fun x => aheadXY_right g x)
      have hbig := Lib.hid (fun a b => aheadXY_big g a b)
      have c1 := Lib.hid (parseNumber_any (bs [h1, h2]) w (by rw [bs_size]; simp))
      have c2 := Lib.hid (parseNumber_any (bs [m1, m2]) w (by rw [bs_size]; simp))
      rw [bs_toList] at c1 c2
      have z1 : orNone (number [h1, h2]) ≤ 99 := (orNone_bound [h1, h2]).2
      have z2 : orNone (number [m1, m2]) ≤ 99 := (orNone_bound [m1, m2]).2
      have e5 : ((s.size : Int) != 5) = false := by simp; omega
      by_cases hgs : g = 43 ∨ g = 45
      · have hgn : Hid (g = 43 ∨ g = 45) := hgs
        have hy : Hid (∀ a b : Nat, a ≤ 14 → b ≤ 59 → aheadXY g (some a) (some b) = some (if g = 45 then -(60 * (a : Int)) - b else 60 * (a : Int) + b)) := fun a b ha hb => by
          unfold aheadXY
          rw [if_pos hgs]
          simp only []
          rw [if_pos ⟨ha, hb⟩]
        generalize number [h1, h2] = na at *
        generalize number [m1, m2] = nb at *
        generalize bs [h1, h2] = A at *
        generalize bs [m1, m2] = B at *
        clear hl
        rcases hgs with rfl | rfl
        all_goals
          replace hg := (show _ = _ from hg)
          simp only [UInt8.reduceToNat] at hg
          cases na with
          | none =>
            have hr := Lib.hid (hl1.out nb)
            go_enter Tryz.func96, Tryz.ntmps96
            go_wp2_with fail
            (with_reducible refine c1.out.mono ?_)
            rintro e w' ⟨rfl, rfl⟩
            simp only [answerN]
            go_wp2_with fail
            (with_reducible refine c2.out.mono ?_)
            rintro e w' ⟨rfl, rfl⟩
            cases nb
            all_goals
              simp only [answerN]
              go_wp2_with fail
              go_ret2
              exact ⟨by rw [hr.out]; rfl, rfl⟩
          | some a =>
            simp only [orNone] at z1
            cases nb with
            | none =>
              have hr := Lib.hid (hl2.out (some a))
              go_enter Tryz.func96, Tryz.ntmps96
              go_wp2_with fail
              (with_reducible refine c1.out.mono ?_)
              rintro e w' ⟨rfl, rfl⟩
              simp only [answerN]
              go_wp2_with fail
              (with_reducible refine c2.out.mono ?_)
              rintro e w' ⟨rfl, rfl⟩
              simp only [answerN]
              go_wp2_with fail
              go_ret2
              exact ⟨by rw [hr.out]; rfl, rfl⟩
            | some b =>
              simp only [orNone] at z2
              by_cases ha : a ≤ 14
              · by_cases hb : b ≤ 59
                · have hr := Lib.hid (hy.out a b ha hb)
                  go_enter Tryz.func96, Tryz.ntmps96
                  go_wp2_with fail
                  (with_reducible refine c1.out.mono ?_)
                  rintro e w' ⟨rfl, rfl⟩
                  simp only [answerN]
                  go_wp2_with fail
                  (with_reducible refine c2.out.mono ?_)
                  rintro e w' ⟨rfl, rfl⟩
                  simp only [answerN]
                  go_wp2_with fail
                  go_ret2
                  refine ⟨?_, rfl⟩
                  rw [hr.out]
                  exact ret_z (by first | (rw [if_pos trivial]; omega) | (rw [if_neg (by decide)]; omega))
                · have hr := Lib.hid (hbig.out a b (by omega))
                  go_enter Tryz.func96, Tryz.ntmps96
                  go_wp2_with fail
                  (with_reducible refine c1.out.mono ?_)
                  rintro e w' ⟨rfl, rfl⟩
                  simp only [answerN]
                  go_wp2_with fail
                  (with_reducible refine c2.out.mono ?_)
                  rintro e w' ⟨rfl, rfl⟩
                  simp only [answerN]
                  go_wp2_with fail
                  go_ret2
                  exact ⟨by rw [hr.out]; rfl, rfl⟩
              · have hr := Lib.hid (hbig.out a b (by omega))
                go_enter Tryz.func96, Tryz.ntmps96
                go_wp2_with fail
                (with_reducible refine c1.out.mono ?_)
                rintro e w' ⟨rfl, rfl⟩
                simp only [answerN]
                go_wp2_with fail
                (with_reducible refine c2.out.mono ?_)
                rintro e w' ⟨rfl, rfl⟩
                simp only [answerN]
                go_wp2_with fail
                go_ret2
                exact ⟨by rw [hr.out]; rfl, rfl⟩
      · have hres : Hid (aheadXY g (number [h1, h2]) (number [m1, m2]) = none) := by
          unfold aheadXY
          exact if_neg hgs
        have e43 : ((g.toNat : Int) != 43) = true := bne_iff_ne.2 (fun e => hgs (Or.inl (UInt8.toNat_inj.1 (by simp; omega))))
        have e45 : ((g.toNat : Int) != 45) = true := bne_iff_ne.2 (fun e => hgs (Or.inr (UInt8.toNat_inj.1 (by simp; omega))))
        clear hgs
        go_enter Tryz.func96, Tryz.ntmps96
        go_wp2_with fail
        go_ret2
        exact ⟨by rw [hres.out]; rfl, rfl⟩
  · have hr := Lib.hid (ahead_short (l := s.data.toList) (by simpa using h5))
    have e5 : ((s.size : Int) != 5) = true := by simp; omega
    clear h5
    go_enter Tryz.func96, Tryz.ntmps96
    go_wp2_with fail
    go_ret2
    exact ⟨by rw [hr.out]; rfl, rfl⟩
end Go.Proofs.YtiidhcpflplpiaaGreatDoor
