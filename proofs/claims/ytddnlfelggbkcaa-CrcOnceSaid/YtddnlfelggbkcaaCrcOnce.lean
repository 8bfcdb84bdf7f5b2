/-
  CrcOnce holds (the stage's theorem): asked for as many sums as may be, twice over and from the last one on, a table tells the right ones, and is made once. No condition.
-/
import Derived.Test.YtddnlfelggbkcaaList
import Derived.Deep.RegionHeld3
import Derived.OpenShut
namespace Go.Proofs.Ytddnlfelggbkcaa.crcOnce
open Go.ChangeShapes Go.WideShapes Go.ChangeAt Go.RowKit Crc

theorem own : ownKnob Try.prog.godebug = none := by kernel_rfl
theorem laidOut : laidOutB Try.prog = true := by kernel_rfl

set_option maxHeartbeats 400000 in
theorem walk_long (a : Option Addr) (len cap : Nat) (w : World) (h : 16 < len) :
    Calls Try.prog 4 #[.slice a len cap] w fun e w' => e = .returned (.bool true) ∧ Below w.heap.size w w' := by
  have hnot := not_run
  go_enter Try.func4, Try.ntmps4
  go_wp2_with fail
  refine (awake_any _).mono ?_
  rintro e w1 ⟨rfl, b1⟩
  have b1 := Lib.hid b1
  go_wp2_with fail
  refine (awake_any _).mono ?_
  rintro e w2 ⟨rfl, k2⟩
  have b2 := Lib.hid (b1.out.trans (k2.mono b1.out.size))
  clear k2 b1
  go_wp2_with fail
  go_ret
  exact ⟨rfl, b2.out⟩

/-- The state behind T sums. -/
def Rel (w : World) (b T : Nat) (wr : World) : Prop := Below w.heap.size w wr ∧ w.heap.size ≤ b ∧ ((T = 0 ∧ Fresh wr b) ∨ (0 < T ∧ Ready wr b))

theorem Rel.drew {w : World} {b T : Nat} {wr : World} (h : Rel w b T wr) : Rel w b T wr.drew :=
  ⟨h.1.drew, h.2.1, h.2.2.elim (fun x => Or.inl ⟨x.1, Tab.drew x.2⟩) (fun x => Or.inr ⟨x.1, Tab.drew x.2⟩)⟩

theorem sum_rel (w : World) (b T : Nat) (s : ByteArray) (wr : World) (hs : s.size ≤ maxLen) (h : Rel w b T wr) :
    Calls Try.prog 11 #[.pointer (some ⟨b, 0, none⟩), .string s] wr fun e w' => e = .returned (.int .u32 (crc s.data.toList : Nat)) ∧ Ready w' b ∧ Below w.heap.size w w' := by
  rcases h.2.2 with ⟨_, t⟩ | ⟨_, t⟩
  · exact (sum_fresh b s wr hs t).mono fun _ _ ⟨he, t2, k⟩ => ⟨he, t2, h.1.trans (k.below h.2.1 h.1.size)⟩
  · exact (sum_ready b s wr hs t).mono fun _ _ ⟨he, hw⟩ => ⟨he, hw ▸ t, hw ▸ h.1⟩

set_option maxRecDepth 100000 in
set_option maxHeartbeats 1000000 in
theorem walk_list (a : Option Addr) (len cap : Nat) (ss : List ByteArray) (w : World) (h : len ≤ 16) (hl : Hid (IsList w a len ss)) :
    Calls Try.prog 4 #[.slice a len cap] w fun e w' => e = .returned (.bool true) ∧ Below w.heap.size w w' := by
  have hnot := not_run
  go_enter Try.func4, Try.ntmps4
  go_wp2_with fail
  refine (awake_any _).mono ?_
  rintro e w1 ⟨rfl, b1⟩
  have b1 := Lib.hid b1
  go_wp2_with fail
  -- the first loop: no text is too long
  go_loop [17] (fun i => ∃ k : Nat, k ≤ len ∧ i = .int .i64 k ∧ Hid (∀ j, j < k → (ss.getD j ByteArray.empty).size ≤ 1000)) (fun i => len - (intOf i).toNat)
  case atStart => exact ⟨0, by omega, rfl, fun j hj => by omega⟩
  case round =>
    obtain ⟨k, hk, rfl, hr⟩ := hrel
    by_cases hlt : k < len
    · obtain ⟨x, off, rfl, hx, hcell⟩ : ∃ x off, a = some ⟨x, off, none⟩ ∧ x < w.heap.size ∧ w.cell? ⟨x, off + k, none⟩ = some (.string (ss.getD k ByteArray.empty)) := by
        rcases hl.out with h0 | ⟨x, off, rfl, hx, _, hc⟩
        · omega
        · exact ⟨x, off, rfl, hx, (hc k hlt).1⟩
      have hcr : w1.cell? ⟨x, off + k, none⟩ = some (.string (ss.getD k ByteArray.empty)) := (b1.out.cell (p := ⟨x, off + k, none⟩) hx).trans hcell
      clear hcell hl
      have hr2 : Hid ((ss.getD k ByteArray.empty).size ≤ 1000 → ∀ j, j < k + 1 → (ss.getD j ByteArray.empty).size ≤ 1000) := fun hb j hj => by
        by_cases e : j = k
        · subst e; exact hb
        · exact hr.out j (by omega)
      clear hr
      generalize hs : ss.getD k ByteArray.empty = s at *
      have hs := Lib.hid hs
      by_cases hbig : 1000 < s.size
      · go_wp2_with fail
        go_ret
        exact ⟨rfl, b1.out⟩
      · have r3 := Lib.hid (hr2.out (by omega))
        clear hr2
        go_wp2_with fail
        go_round
        case rel => exact ⟨k + 1, by omega, by go_num, r3⟩
        case measure => simp [intOf]; omega
    · obtain rfl : k = len := by omega
      go_wp2_with fail
      refine (new_any _).mono ?_
      rintro e w2 ⟨rfl, rfl⟩
      have r2 : Hid (Rel w w1.heap.size (0 * k) (w1.alloc (.cells newCells 55))) := ⟨b1.out.trans ((below_new w1).mono b1.out.size), b1.out.size, Or.inl ⟨by omega, fresh_new w1⟩⟩
      generalize w1.alloc (.cells newCells 55) = w2 at *
      generalize w1.heap.size = b at *
      clear b1
      go_wp2_with fail
      go_loopw [26] (fun i wr => ∃ n : Nat, n ≤ 2 ∧ i = .int .i64 n ∧ Hid (Rel w b (n * k) wr)) (fun i _ => 2 - (intOf i).toNat)
      case atStart => exact ⟨0, by omega, rfl, r2⟩
      case round =>
        obtain ⟨n, hn, rfl, hrn⟩ := hrel
        clear r2
        by_cases hlt2 : n < 2
        · have hd2 : decide ((n : Int) < 2) = true := by simp; omega
          go_wp2_with fail
          go_loopw [6] (fun i wr => ∃ m : Nat, m ≤ k ∧ i = .int .i64 ((m : Int) - 1) ∧ Hid (Rel w b (n * k + (k - m)) wr)) (fun i _ => (intOf i + 1).toNat)
          case atStart => exact ⟨k, by omega, rfl, by rw [Nat.sub_self, Nat.add_zero]; exact hrn⟩
          case round =>
            obtain ⟨m, hm, rfl, hrj⟩ := hrel
            clear hrn
            by_cases hlt3 : 0 < m
            · obtain ⟨q, rfl⟩ : ∃ q, m = q + 1 := ⟨m - 1, by omega⟩
              rw [show (((q + 1 : Nat) : Int) - 1) = (q : Int) by omega]
              obtain ⟨x, off, rfl, hx, hcell, hsz⟩ : ∃ x off, a = some ⟨x, off, none⟩ ∧ x < w.heap.size ∧ w.cell? ⟨x, off + q, none⟩ = some (.string (ss.getD q ByteArray.empty)) ∧ (ss.getD q ByteArray.empty).size ≤ maxLen := by
                rcases hl.out with h0 | ⟨x, off, rfl, hx, _, hc⟩
                · omega
                · exact ⟨x, off, rfl, hx, hc _ (by omega)⟩
              have hcr : wr.cell? ⟨x, off + q, none⟩ = some (.string (ss.getD q ByteArray.empty)) := (hrj.out.1.cell (p := ⟨x, off + q, none⟩) hx).trans hcell
              have hcell := Lib.hid hcell
              have hsz := Lib.hid hsz
              have hsm := hr.out q (by omega)
              generalize ss.getD q ByteArray.empty = s at *
              have hqk : q < k := by omega
              have hqk2 : (q : Int) < (k : Int) := by omega
              clear hlt3 hm hr hl
              go_wp2_with fail
              go_region_held3 (fun w' => w'.cell? ⟨x, off + q, none⟩ = some (.string s)) (first | exact hc3 | go_keep)
                (first
                  | (go_at_call 11; refine (sum_rel w b _ s _ hsz.out hrj.out.drew).mono ?_; rintro e w3 ⟨rfl, t3, b3⟩; have hc3 : w3.cell? ⟨x, off + q, none⟩ = some (.string s) := (b3.cell (p := ⟨x, off + q, none⟩) hx).trans hcell.out; have t3 := Lib.hid t3; have b3 := Lib.hid b3)
                  | (go_at_call 12; refine (refSum_any s _ hsz.out).mono ?_; rintro e w4 ⟨rfl, rfl⟩)
                  | (go_at_call 10; refine (made_ready b _ t3.out).mono ?_; rintro e w4 ⟨rfl, rfl⟩))
              have r3 : Hid (Rel w b (n * k + (k - q)) w3) := ⟨b3.out, hrj.out.2.1, Or.inr ⟨by omega, t3.out⟩⟩
              clear b3 t3 hrj hc3 hcr
              go_wp2_with fail
              go_roundw
              case rel => exact ⟨q, by omega, rfl, r3⟩
              case measure => simp [intOf]
            · obtain rfl : m = 0 := by omega
              go_wp2_with fail
              go_roundw
              case rel => exact ⟨n + 1, by omega, by go_num, by rw [Nat.succ_mul]; exact hrj⟩
              case measure => simp [intOf]; omega
        · obtain rfl : n = 2 := by omega
          by_cases h0 : k = 0
          · have t0 : Fresh wr b := by
              rcases hrn.out.2.2 with ⟨_, t⟩ | ⟨hp, _⟩
              · exact t
              · omega
            have hmin := min_nought k h0
            have h0 := Lib.hid h0
            have t0 := Lib.hid t0
            go_wp2_with fail
            refine (made_fresh _ _ t0.out).mono ?_
            rintro e w3 ⟨rfl, rfl⟩
            go_wp2_with fail
            go_ret
            exact ⟨rfl, hrn.out.1⟩
          · have t0 : Ready wr b := by
              rcases hrn.out.2.2 with ⟨hp, _⟩ | ⟨_, t⟩
              · omega
              · exact t
            have hmin := min_one k (by omega)
            have t0 := Lib.hid t0
            go_wp2_with fail
            refine (made_ready _ _ t0.out).mono ?_
            rintro e w3 ⟨rfl, rfl⟩
            go_wp2_with fail
            go_ret
            exact ⟨rfl, hrn.out.1⟩
theorem walk (a : Option Addr) (len cap : Nat) (ss : List ByteArray) (w : World) (hl : IsList w a len ss) :
    Calls Try.prog 4 #[.slice a len cap] w fun e w' => e = .returned (.bool true) ∧ Below w.heap.size w w' := by
  by_cases h : 16 < len
  · exact walk_long a len cap w h
  · exact walk_list a len cap ss w (by omega) hl

set_option maxRecDepth 100000 in
theorem lifted (os : Os) (started : os.Started) (H : Type) (enc : TypeId × Value → H) :
    ReturnsInHanded {} Try.checked os 4 .any (Rows.crcOnceSpec.pre6 enc Try.prog Try.f4 Rows.crcOnceRow.domain false) (Rows.crcOnceSpec.post enc Try.prog Try.f4 false true false false) := by
  refine returnsInHanded_of_change (C := Try.checked) own started (by kernel_rfl) Try.func4
    (ChangeSpec.witness6 (enc := enc) (C := Try.checked) false ⟨#[], #[.slice none 0 0], []⟩ 8 (by kernel_rfl) (by kernel_rfl) (by kernel_rfl) (by kernel_rfl)) ?_
  intro W base args ds gs before hval0 hW _ _
  have hval : ∀ (j : Nat) t v, Try.f4.params[j]? = some t → args[j]? = some v → Value.okWide Try.prog W .any base t v := hval0
  have hW' := hW
  obtain ⟨p, q, hA0, hV, rfl, hfz, hnd⟩ := hW
  have hA : DataW.TrodAll enc Try.prog W 0 (fun _ => true) true Try.f4.params.toList args.toList ds p := hA0
  rw [Try.params4] at hA hval
  obtain ⟨v0, vs0, d0, ds0, p0, q0, hargs, rfl, rfl, h0, r0⟩ := trodAll_cons hA
  obtain ⟨rfl, rfl, rfl⟩ := trodAll_nil r0
  obtain rfl : args = #[v0] := by cases args; simp_all
  obtain ⟨rfl, rfl⟩ := trodVars_none hV
  obtain ⟨a0, len0, cap0, rfl⟩ := okWide_slice Try.underlying22 (hval 0 22 v0 rfl rfl)
  have k0 := h0
  have lt0 : ∀ x ∈ p0, x.block < W.heap.size := by obtain ⟨m, hm⟩ := k0; exact DataW.trod_lt m _ _ _ hm
  obtain ⟨ss, w0⟩ : ∃ ss, IsList W a0 len0 ss := by
    obtain ⟨fuel, hf⟩ := h0
    exact isList_of hf
  clear hA0 hval0
  refine (walk a0 len0 cap0 ss W w0).mono fun e W' ⟨he, bel⟩ => ?_
  subst he
  exact ⟨_, rfl, _, _, _, [], _, [], hW', trodAll_mk1 (shut_bool Try.underlying4 _), (trodAll_cons_mk (Below.trod laidOut (by kernel_rfl) (of_decide_eq_true (by kernel_rfl)) k0 bel lt0) trodAll_mk0), rfl, bel.frame _, fun h => by cases h⟩

theorem over : Rows.crcOnceRow.holds Try.pinned (OpenSpec.ofChange Rows.crcOnceSpec) :=
  OpenClaim.holds_of_wide 4 Try.f4 rfl rfl rfl rfl rfl rfl rfl ⟨rfl, rfl, rfl, rfl, rfl⟩ rfl rfl rfl rfl rfl (by kernel_rfl) Try.func4 (by kernel_rfl)
    (of_decide_eq_true (by kernel_rfl)) (by unfold Func.isWrapper; first | (rw [if_pos (by decide +kernel)]; kernel_rfl) | (rw [if_neg (by decide +kernel)]; exact ⟨rfl, rfl⟩))
    (fun os started H enc _ => lifted os started H enc)

/-- The statement. -/
theorem proved : Rows.CrcOnceSaid := over
#print axioms proved
end Go.Proofs.Ytddnlfelggbkcaa.crcOnce
