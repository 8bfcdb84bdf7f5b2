/-
  StableScans holds: any bytes are the records that the document says, as far as they go, and these records' bytes are just those. No condition (the law itself asks nothing of more than 5000 bytes).
-/
import Derived.Test.YtdkdkkledlolcaaSRow
namespace Go.Proofs.Ytdkdkkledlolcaa.stableScans
open Go.ChangeShapes Go.WideShapes Go.ChangeAt Go.RowKit
open Go.ChangeMaps (open_string shut_string)
set_option linter.unusedVariables false

theorem own : ownKnob Try.prog.godebug = none := by kernel_rfl

set_option maxRecDepth 100000

set_option maxHeartbeats 800000 in
theorem walk_long (s : ByteArray) (w : World) (h : 5000 < s.size) :
    Calls Try.prog 5 #[.string s] w fun e w' => e = .returned (.bool true) ∧ Below w.heap.size w w' := by
  have h' : (5000 : Int) < s.size := by omega
  go_enter Try.func5, Try.ntmps5
  go_wp2_with fail
  refine (awake_any _).mono ?_
  rintro e w1 ⟨rfl, b1⟩
  replace b1 := Lib.hid b1
  go_wp2_with fail
  refine (awake_any _).mono ?_
  rintro e w2 ⟨rfl, k2⟩
  have b2 := Lib.hid (b1.out.trans (k2.mono b1.out.size))
  clear k2 b1
  go_wp2_with fail
  go_ret
  exact ⟨rfl, b2.out⟩

theorem take_more (l : List ByteArray) (k : Nat) (hk : k < l.length) : cat (l.take (k + 1)) = cat (l.take k) ++ recB (l.getD k ⟨#[]⟩) := by
  rw [← List.take_append_getElem hk, cat_snoc]
  simp [List.getD, hk]
theorem take_size (l : List ByteArray) (k : Nat) : (cat (l.take k)).size ≤ (cat l).size := by
  have h := cat_app (l.take k) (l.drop k)
  rw [List.take_append_drop] at h
  rw [h, D.size_append']; omega

set_option maxHeartbeats 1600000 in
theorem walk_short (s : ByteArray) (w : World) (h : ¬ 5000 < s.size) :
    Calls Try.prog 5 #[.string s] w fun e w' => e = .returned (.bool true) ∧ Below w.heap.size w w' := by
  have h' : ¬ (5000 : Int) < s.size := by omega
  obtain ⟨l, Q, hl, hQ⟩ := scan_ex s.size s (Nat.le_refl _)
  have hs1 := Lib.hid (fun W => scan_any s Q l W (by omega) hl hQ)
  have hs2 := Lib.hid (fun W => refScan_any s Q l W (by omega) hl hQ)
  have hle : (cat l).size ≤ s.size := by
    have := congrArg ByteArray.size hl
    rw [D.size_append'] at this
    omega
  have hcut : s.extract 0 (cat l).size = cat l := by
    have := D.take_append (cat l) Q _ rfl
    rw [← hl] at this
    exact this
  have hll := cat_len l
  have hts := Lib.hid (take_size l)
  have hmem : Hid (∀ k, k < l.length → (l.getD k ⟨#[]⟩).size ≤ 5000) := fun k hk => by
    have : l.getD k ⟨#[]⟩ ∈ l := by simp [List.getD, hk]
    have := cat_in this
    omega
  have hmo := Lib.hid (take_more l)
  obtain ⟨n, hn⟩ : ∃ n, n = (cat l).size := ⟨_, rfl⟩
  rw [← hn] at hs1 hs2 hle hcut hll hts
  have hn0 := Lib.hid hn
  clear hl hQ hn
  have hle2 : (n : Int) ≤ s.size := by omega
  have hle3 : (0 : Int) ≤ (n : Int) := by omega
  go_enter Try.func5, Try.ntmps5
  go_wp2_with fail
  refine (awake_any _).mono ?_
  rintro e w1 ⟨rfl, b1⟩
  replace b1 := Lib.hid b1
  go_wp2_with fail
  refine (hs1.out _).mono ?_
  rintro e w2 ⟨v, rfl, ov, k2⟩
  have b2 := Lib.hid (b1.out.trans (k2.mono b1.out.size))
  replace ov := Lib.hid ov.strs
  clear k2 b1
  go_wp2_with fail
  refine (hs2.out _).mono ?_
  rintro e w3 ⟨u, rfl, ou, k3⟩
  have b3 := Lib.hid (b2.out.trans (k3.mono b2.out.size))
  replace ou := Lib.hid ou.strs
  replace ov := Lib.hid (ov.out.below k3)
  clear k3 b2 hs1 hs2
  obtain ⟨a, cap, rfl, hv⟩ := ov.out
  replace hv := Lib.hid hv
  clear ov
  have hlen : l.length ≤ 5000 := by omega
  obtain ⟨m, hm⟩ : ∃ m, m = l.length := ⟨_, rfl⟩
  have hm0 := Lib.hid hm
  rw [← hm] at hlen ⊢
  clear hm hll
  go_wp2_with fail
  go_loopw [7, 30] (fun t i wr => ∃ k : Nat, k ≤ m ∧ i = .int .i64 k ∧ t = .string (cat (l.take k)) ∧ Hid (Below w3.heap.size w3 wr)) (fun _ i _ => m - (intOf i).toNat)
  case atStart => exact ⟨0, by omega, rfl, rfl, Below.refl _ _⟩
  case round =>
    obtain ⟨k, hk, rfl, rfl, br⟩ := hrel
    by_cases hlt : k < m
    · obtain ⟨y, off, rfl, hc⟩ := hv.out.resolve_left (fun e => by have := hm0.out; rw [e] at this; simp at this; omega)
      have c3 := hc k (by have := hm0.out; omega)
      have hx : l[k]'(by have := hm0.out; omega) = l.getD k ⟨#[]⟩ := by
        have : k < l.length := by have := hm0.out; omega
        simp [List.getD, this]
      rw [hx] at c3
      have cr : wr.cell? ⟨y, off + k, none⟩ = some (.string (l.getD k ⟨#[]⟩)) := (br.out.cell (World.block_lt_of_cell? _ _ c3)).trans c3
      have hxs := hmem.out k (by have := hm0.out; omega)
      have hne := hmo.out k (by have := hm0.out; omega)
      have ht1 := hts.out (k + 1)
      clear c3 hx
      generalize l.getD k ⟨#[]⟩ = x at *
      have hzz : (cat (l.take k)).size + (recB x).size ≤ n := by rw [hne, D.size_append'] at ht1; exact ht1
      have hz1 : ¬ 9223372036854775807 < (cat (l.take k)).size + (recB x).size := by omega
      replace hne := Lib.hid hne
      generalize hX : recB x = X at *
      generalize cat (l.take k) = C at *
      go_wp2_with fail
      refine (bytes_any x _ (by omega)).mono ?_
      rintro e w4 ⟨rfl, b4⟩
      rw [hX]
      replace br := Lib.hid (br.out.trans (b4.mono br.out.size))
      clear b4 cr hX
      go_wp2_with fail
      refine ⟨⟨k + 1, by omega, by go_num, by rw [hne.out], br⟩, ?_⟩
      simp [intOf]; omega
    · obtain rfl : k = m := by omega
      have ht : cat (l.take k) = cat l := by rw [hm0.out, List.take_length]
      have sv : Hid (Strs wr (.slice a k cap) l) := Strs.below (w := w3) ⟨a, cap, by rw [← hm0.out], hv.out⟩ br.out
      have su := Lib.hid (ou.out.below br.out)
      have bw := Lib.hid (b3.out.trans (br.out.mono b3.out.size))
      rw [ht]
      clear ht hv ou br b3 hts hmem hmo
      have hl1 : l.length ≤ 1000000 := by have := hm0.out; omega
      clear hm0
      go_wp2_with fail
      refine (same_any _ _ l _ sv.out su.out hl1).mono ?_
      rintro e w5 ⟨rfl, b5⟩
      replace bw := Lib.hid (bw.out.trans (b5.mono bw.out.size))
      clear b5 sv su
      go_wp2_with fail
      go_ret
      exact ⟨rfl, bw.out⟩

theorem walk (s : ByteArray) (w : World) : Calls Try.prog 5 #[.string s] w fun e w' => e = .returned (.bool true) ∧ Below w.heap.size w w' := by
  by_cases h : 5000 < s.size
  · exact walk_long s w h
  · exact walk_short s w h

set_option maxRecDepth 100000 in
theorem lifted (os : Os) (started : os.Started) (H : Type) (enc : TypeId × Value → H) :
    ReturnsInHanded {} Try.checked os 5 .any (Rows.stableScansSpec.pre6 enc Try.prog Try.f5 Rows.stableScansRow.domain false) (Rows.stableScansSpec.post enc Try.prog Try.f5 false true false false) := by
  refine returnsInHanded_of_change (C := Try.checked) own started (by kernel_rfl) Try.func5
    (ChangeSpec.witness6 (enc := enc) (C := Try.checked) false ⟨#[], #[.string ByteArray.empty], []⟩ 8 (by kernel_rfl) (by kernel_rfl) (by kernel_rfl) (by kernel_rfl)) ?_
  intro W base args ds gs before hval0 hW _ _
  have hval : ∀ (j : Nat) t v, Try.f5.params[j]? = some t → args[j]? = some v → Value.okWide Try.prog W .any base t v := hval0
  have hW' := hW
  obtain ⟨p, q, hA0, hV, rfl, hfz, hnd⟩ := hW
  have hA : DataW.TrodAll enc Try.prog W 0 (fun _ => true) true Try.f5.params.toList args.toList ds p := hA0
  rw [Try.params5] at hA hval
  obtain ⟨v0, vs0, d0, ds0, p0, q0, hargs, rfl, rfl, h0, r0⟩ := trodAll_cons hA
  obtain ⟨rfl, rfl, rfl⟩ := trodAll_nil r0
  obtain rfl : args = #[v0] := by cases args; simp_all
  obtain ⟨rfl, rfl⟩ := trodVars_none hV
  obtain ⟨a0, rfl, rfl, rfl, w0⟩ := open_string Try.underlying9 (hval 0 9 v0 rfl rfl) h0
  clear hA0 hval0
  simp only [List.append_nil] at hW'
  refine (walk a0 W ).mono fun e W' ⟨he, bel⟩ => ?_
  subst he
  exact ⟨_, rfl, _, _, _, [], [], [], hW', trodAll_mk1 (shut_bool Try.underlying4 _), (trodAll_cons_mk (shut_string Try.underlying9 w0) trodAll_mk0), rfl, bel.frame _, fun h => by cases h⟩

theorem over : Rows.stableScansRow.holds Try.pinned (OpenSpec.ofChange Rows.stableScansSpec) :=
  OpenClaim.holds_of_wide 5 Try.f5 rfl rfl rfl rfl rfl rfl rfl ⟨rfl, rfl, rfl, rfl, rfl⟩ rfl rfl rfl rfl rfl (by kernel_rfl) Try.func5 (by kernel_rfl)
    (of_decide_eq_true (by kernel_rfl)) (by unfold Func.isWrapper; first | (rw [if_pos (by decide +kernel)]; kernel_rfl) | (rw [if_neg (by decide +kernel)]; exact ⟨rfl, rfl⟩))
    (fun os started H enc _ => lifted os started H enc)

/-- The statement. -/
theorem proved : Rows.StableScansSaid := over
#print axioms proved
end Go.Proofs.Ytdkdkkledlolcaa.stableScans
