/-
  StableCuts holds: bytes of records that are cut off anywhere say a beginning of the records; whole, all of them. No condition.
-/
import Derived.Test.YtdkdkkledlolcaaSRow
import Derived.SizedLaws
namespace Go.Proofs.Ytdkdkkledlolcaa.stableCuts
open Go.ChangeShapes Go.WideShapes Go.ChangeAt Go.RowKit
open Go.ChangeMaps (open_string shut_string)
set_option linter.unusedVariables false

theorem own : ownKnob Try.prog.godebug = none := by kernel_rfl
theorem laidOut : laidOutB Try.prog = true := by kernel_rfl

set_option maxRecDepth 100000

/-- The first k texts of a list that came in. -/
def firstK (ss : List ByteArray) (k : Nat) : List ByteArray := (List.range k).map fun i => ss.getD i ByteArray.empty
theorem firstK_len (ss : List ByteArray) (k : Nat) : (firstK ss k).length = k := by simp [firstK]
theorem firstK_more (ss : List ByteArray) (k : Nat) : cat (firstK ss (k + 1)) = cat (firstK ss k) ++ recB (ss.getD k ByteArray.empty) := by
  unfold firstK
  rw [List.range_succ, List.map_append, List.map_singleton, cat_snoc]
theorem firstK_get (ss : List ByteArray) (k i : Nat) (h : i < (firstK ss k).length) : (firstK ss k)[i] = ss.getD i ByteArray.empty := by
  simp [firstK]
theorem firstK_take (ss : List ByteArray) (k j : Nat) (h : j ≤ k) : (firstK ss k).take j = firstK ss j := by
  unfold firstK
  rw [← List.map_take, List.take_range, Nat.min_eq_left h]
/-- The place that is asked for, as the walk spells it. -/
theorem place_of (c : Int) (n : Nat) (h0 : 0 < n) (hn : n ≤ 100000) :
    ∃ i : Nat, i < n ∧ wrap64 ((IntKind.u64.wrap c).tmod (n : Int)) = (i : Int) := by
  have e2 : 0 ≤ IntKind.u64.wrap c := by rw [IntKind.wrap_u64]; omega
  rw [IntWalk.rem_in _ _ e2]
  generalize IntKind.u64.wrap c = u at *
  have h1 := Int.emod_nonneg u (show (n : Int) ≠ 0 by omega)
  have h2 := Int.emod_lt_of_pos u (show (0 : Int) < n by omega)
  refine ⟨(u % n).toNat, by omega, ?_⟩
  rw [IntWalk.wrap64_in _ (by omega)]
  omega
theorem row_first {w : World} {base : Nat} {v : Value} {ss : List ByteArray} {j : Nat} (o : Row w base v (firstK ss j)) : ∃ p cap, v = .slice p j cap ∧ Strs w (.slice p j cap) (firstK ss j) := by
  have o' := o
  obtain ⟨p, cap, hv⟩ := own_slice o'
  rw [firstK_len] at hv
  exact ⟨p, cap, hv, hv ▸ Row.strs o⟩
theorem arg_first {w : World} {b off cap k j : Nat} {ss : List ByteArray} (hc : ∀ i, i < k → w.cell? ⟨b, off + i, none⟩ = some (.string (ss.getD i ByteArray.empty))) (hj : j ≤ k) : Strs w (.slice (some ⟨b, off, none⟩) j cap) (firstK ss j) :=
  ⟨_, cap, by rw [firstK_len], Or.inr ⟨b, off, rfl, fun i hi => by rw [firstK_get]; exact hc i (by rw [firstK_len] at hi; omega)⟩⟩

set_option maxHeartbeats 3200000 in
/-- A list that isn't empty. -/
theorem walk_some (a : Option Addr) (len cap : Nat) (ss : List ByteArray) (c : Int) (w : World) (b off : Nat) (ha : a = some ⟨b, off, none⟩) (hb : b < w.heap.size) (hlen : len ≤ 8796093021952) (hcap : len ≤ cap) (hcap2 : cap ≤ maxLen) (h0 : 0 < len)
    (hc : ∀ i, i < len → w.cell? ⟨b, off + i, none⟩ = some (.string (ss.getD i ByteArray.empty))) :
    Calls Try.prog 7 #[.slice a len cap, .int .i64 c] w fun e w' => e = .returned (.bool true) ∧ Below w.heap.size w w' := by
  subst ha
  unfold maxLen at hcap2
  have hc0 := Lib.hid hc
  clear hc
  go_enter Try.func7, Try.ntmps7
  go_wp2_with fail
  go_loopw [5, 14] (fun s i wr => ∃ k n : Nat, k ≤ len ∧ i = .int .i64 k ∧ s = .string (cat (firstK ss k)) ∧ Hid (n = (cat (firstK ss k)).size) ∧ n ≤ 514 * k ∧ Hid (∀ j, j < k → (ss.getD j ByteArray.empty).size ≤ 500) ∧ Hid (Below w.heap.size w wr)) (fun _ i _ => len - (intOf i).toNat)
  case atStart => exact ⟨0, 0, by omega, rfl, rfl, rfl, by omega, fun j hj => by omega, Below.refl _ _⟩
  case round =>
    obtain ⟨k, n, hk, rfl, rfl, hn, hn2, hsm, br⟩ := hrel
    by_cases hlt : k < len
    · have c3 : wr.cell? ⟨b, off + k, none⟩ = some (.string (ss.getD k ByteArray.empty)) := (br.out.cell (p := ⟨b, off + k, none⟩) hb).trans (hc0.out k hlt)
      have hmo := Lib.hid (firstK_more ss k)
      have hsm2 : Hid (∀ z, z = ss.getD k ByteArray.empty → z.size ≤ 500 → ∀ j, j < k + 1 → (ss.getD j ByteArray.empty).size ≤ 500) := fun z hz hz2 j hj => by
        by_cases e : j = k
        · rw [e, ← hz]; exact hz2
        · exact hsm.out j (by omega)
      have hx0 : Hid (∃ z, z = ss.getD k ByteArray.empty) := ⟨_, rfl⟩
      have hlt2 : (k : Int) < len := by omega
      by_cases hbig : 500 < (ss.getD k ByteArray.empty).size
      · generalize ss.getD k ByteArray.empty = x at *
        have hbig2 : (500 : Int) < x.size := by omega
        clear hmo hn
        generalize cat (firstK ss k) = C at *
        go_wp2_with fail
        go_ret
        exact ⟨rfl, br.out⟩
      · have hsm3 := Lib.hid (hsm2.out _ rfl (by omega))
        have hmost := recB_most (t := ss.getD k ByteArray.empty) (by omega)
        have hby := Lib.hid (fun W => bytes_any (ss.getD k ByteArray.empty) W (by omega))
        have hn3 : Hid (n + (recB (ss.getD k ByteArray.empty)).size = (cat (firstK ss (k + 1))).size) := by show _ = _; rw [hmo.out, D.size_append', hn.out]
        have hz1 : ¬ 9223372036854775807 < (cat (firstK ss k)).size + (recB (ss.getD k ByteArray.empty)).size := by rw [← hn.out]; omega
        clear hsm hsm2 hx0
        generalize ss.getD k ByteArray.empty = x at *
        have hbig2 : ¬ (500 : Int) < x.size := by omega
        generalize recB x = X at *
        clear hn
        generalize cat (firstK ss k) = C at *
        go_wp2_with fail
        refine (hby.out _).mono ?_
        rintro e w4 ⟨rfl, b4⟩
        replace br := Lib.hid (br.out.trans (b4.mono br.out.size))
        clear b4 c3 hby
        go_wp2_with fail
        refine ⟨⟨k + 1, n + X.size, by omega, by go_num, by rw [hmo.out], hn3, by omega, hsm3, br⟩, ?_⟩
        simp [intOf]; omega
    · obtain rfl : k = len := by omega
      by_cases h30 : 30 < k
      · have h30' : (30 : Int) < (k : Int) := by omega
        clear hn
        generalize cat (firstK ss k) = C at *
        go_wp2_with fail
        refine (awake_any _).mono ?_
        rintro e w1 ⟨rfl, b1⟩
        replace br := Lib.hid (br.out.trans (b1.mono br.out.size))
        clear b1
        go_wp2_with fail
        refine (awake_any _).mono ?_
        rintro e w2 ⟨rfl, b2⟩
        replace br := Lib.hid (br.out.trans (b2.mono br.out.size))
        clear b2
        go_wp2_with fail
        go_ret
        exact ⟨rfl, br.out⟩
      · have h30' : ¬ (30 : Int) < (k : Int) := by omega
        have hcl := cat_len (firstK ss k)
        rw [firstK_len, ← hn.out] at hcl
        have hcs : (cat (firstK ss k)).size = n := hn.out.symm
        have hs1 := Lib.hid (fun W => scan_any (cat (firstK ss k)) ⟨#[]⟩ (firstK ss k) W (by omega) (app_nil _).symm noRec_nil)
        have hpos : 0 < (cat (firstK ss k)).size := by omega
        have hp2 : (cat (firstK ss k)).size ≤ 100000 := by omega
        have hpz : (((cat (firstK ss k)).size : Int) == 0) = false := beq_false_of_ne (by omega)
        obtain ⟨m, hm, hidx⟩ := place_of c (cat (firstK ss k)).size hpos hp2
        have hnz : ¬ ((cat (firstK ss k)).size : Int) = 0 := by omega
        obtain ⟨j, hj, Q, hQ1, hQ2⟩ := cat_cut (firstK ss k) m (fun t ht => by
          obtain ⟨i, hi, rfl⟩ := List.getElem_of_mem ht
          rw [firstK_get]
          have := hsm.out i (by rw [firstK_len] at hi; exact hi)
          omega) hm
        rw [firstK_len] at hj
        rw [firstK_take ss k j (by omega)] at hQ1
        have hs2 := Lib.hid (fun W => scan_any ((cat (firstK ss k)).extract 0 m) Q (firstK ss j) W (by rw [D.size_take _ _ (by omega)]; omega) hQ1 hQ2)
        clear hQ1 hQ2 hn hcs hsm hn2 hcl
        generalize (cat (firstK ss j)).size = n2 at *
        generalize cat (firstK ss k) = C at *
        generalize hE : C.extract 0 m = E at *
        have hm0 : (0 : Int) ≤ (m : Int) := by omega
        have hm1 : (m : Int) ≤ (C.size : Int) := by omega
        have hj0 : (0 : Int) ≤ (j : Int) := by omega
        have hj1 : (j : Int) ≤ (cap : Int) := by omega
        have hj2 : (j : Int) < (k : Int) := by omega
        go_wp2_with fail
        refine (awake_any _).mono ?_
        rintro e w1 ⟨rfl, b1⟩
        replace br := Lib.hid (br.out.trans (b1.mono br.out.size))
        clear b1
        go_wp2_with fail
        refine (hs1.out _).mono ?_
        rintro e w2 ⟨v, rfl, ov, b2⟩
        obtain ⟨pv, cv, rfl, sv⟩ := row_first ov
        replace br := Lib.hid (br.out.trans (b2.mono br.out.size))
        replace sv := Lib.hid sv
        clear b2 ov hs1
        go_wp2_with fail
        refine (hs2.out _).mono ?_
        rintro e w3 ⟨u, rfl, ou, b3⟩
        obtain ⟨pu, cu, rfl, su⟩ := row_first ou
        replace br := Lib.hid (br.out.trans (b3.mono br.out.size))
        replace sv := Lib.hid (sv.out.below b3)
        replace su := Lib.hid su
        clear b3 ou hs2 hE
        have sa : Hid (∀ i, i ≤ k → Strs w3 (.slice (some ⟨b, off, none⟩) i cap) (firstK ss i)) := fun i hi => arg_first (fun x hx => (br.out.cell (p := ⟨b, off + x, none⟩) hb).trans (hc0.out x hx)) hi
        have hlk : (firstK ss k).length ≤ 1000000 := by rw [firstK_len]; omega
        have hlj : (firstK ss j).length ≤ 1000000 := by rw [firstK_len]; omega
        go_wp2_with fail
        refine (same_any _ _ (firstK ss k) _ sv.out (sa.out k (Nat.le_refl _)) hlk).mono ?_
        rintro e w4 ⟨rfl, b4⟩
        replace br := Lib.hid (br.out.trans (b4.mono br.out.size))
        replace su := Lib.hid (su.out.below b4)
        have sb := Lib.hid ((sa.out j (by omega)).below b4)
        clear b4 sv sa
        go_wp2_with fail
        refine (same_any _ _ (firstK ss j) _ su.out sb.out hlj).mono ?_
        rintro e w5 ⟨rfl, b5⟩
        replace br := Lib.hid (br.out.trans (b5.mono br.out.size))
        clear b5 su sb
        go_wp2_with fail
        go_ret
        exact ⟨rfl, br.out⟩

set_option maxHeartbeats 800000 in
theorem walk_none (a : Option Addr) (cap : Nat) (c : Int) (w : World) :
    Calls Try.prog 7 #[.slice a 0 cap, .int .i64 c] w fun e w' => e = .returned (.bool true) ∧ Below w.heap.size w w' := by
  go_enter Try.func7, Try.ntmps7
  go_wp2_with fail
  go_loopw [5, 14] (fun s i wr => i = .int .i64 0 ∧ s = .string ⟨#[]⟩ ∧ wr = w) (fun _ _ _ => 0)
  case atStart => exact ⟨rfl, rfl, rfl⟩
  case round =>
    obtain ⟨rfl, rfl, rfl⟩ := hrel
    go_wp2_with fail
    refine (awake_any _).mono ?_
    rintro e w1 ⟨rfl, b1⟩
    replace b1 := Lib.hid b1
    go_wp2_with fail
    refine (awake_any _).mono ?_
    rintro e w2 ⟨rfl, b2⟩
    replace b1 := Lib.hid (b1.out.trans (b2.mono b1.out.size))
    clear b2
    go_wp2_with fail
    go_ret
    exact ⟨rfl, b1.out⟩

theorem walk (a : Option Addr) (len cap : Nat) (ss : List ByteArray) (c : Int) (w : World) (hl : IsList w a len ss) (h : len = 0 ∨ (len ≤ 8796093021952 ∧ len ≤ cap ∧ cap ≤ maxLen)) :
    Calls Try.prog 7 #[.slice a len cap, .int .i64 c] w fun e w' => e = .returned (.bool true) ∧ Below w.heap.size w w' := by
  by_cases h0 : len = 0
  · subst h0
    exact walk_none a cap c w
  · rcases h with h | ⟨h1, h2, h3⟩
    · exact absurd h h0
    · rcases hl with h | ⟨b, off, ha, hb, _, hc⟩
      · exact absurd h h0
      · exact walk_some a len cap ss c w b off ha hb h1 h2 h3 (by omega) (fun i hi => (hc i hi).1)

set_option maxRecDepth 100000 in
theorem lifted (os : Os) (started : os.Started) (H : Type) (enc : TypeId × Value → H) :
    ReturnsInHanded {} Try.checked os 7 .any (Rows.stableCutsSpec.pre6 enc Try.prog Try.f7 Rows.stableCutsRow.domain false) (Rows.stableCutsSpec.post enc Try.prog Try.f7 false true false false) := by
  refine returnsInHanded_of_change_sized (C := Try.checked) own started (by kernel_rfl) Try.func7
    (ChangeSpec.witness6 (enc := enc) (C := Try.checked) false ⟨#[], #[.slice none 0 0, .int .i64 0], []⟩ 8 (by kernel_rfl) (by kernel_rfl) (by kernel_rfl) (by kernel_rfl)) ?_
  intro W base args ds gs before hval0 hW _ hsz0 _
  have hsz : (DataW.weightsEach Try.prog (Try.f7.params.toList ++ Rows.stableCutsSpec.plain.varTypes Try.prog) (ds ++ gs)).all (· ≤ reachBytes) = true := hsz0
  clear hsz0
  have hval : ∀ (j : Nat) t v, Try.f7.params[j]? = some t → args[j]? = some v → Value.okWide Try.prog W .any base t v := hval0
  have hW' := hW
  obtain ⟨p, q, hA0, hV, rfl, hfz, hnd⟩ := hW
  have hA : DataW.TrodAll enc Try.prog W 0 (fun _ => true) true Try.f7.params.toList args.toList ds p := hA0
  rw [Try.params7] at hA hval hsz
  obtain ⟨v0, vs0, d0, ds0, p0, q0, hargs, rfl, rfl, h0, r0⟩ := trodAll_cons hA
  obtain ⟨v1, vs1, d1, ds1, p1, q1, rfl, rfl, rfl, h1, r1⟩ := trodAll_cons r0
  obtain ⟨rfl, rfl, rfl⟩ := trodAll_nil r1
  obtain rfl : args = #[v0, v1] := by cases args; simp_all
  obtain ⟨rfl, rfl⟩ := trodVars_none hV
  obtain ⟨a0, len0, cap0, rfl⟩ := okWide_slice Try.underlying37 (hval 0 37 v0 rfl rfl)
  have k0 := h0
  have lt0 : ∀ x ∈ p0, x.block < W.heap.size := by obtain ⟨m, hm⟩ := k0; exact DataW.trod_lt m _ _ _ hm
  obtain ⟨ss0, w0, z0⟩ : ∃ ss, IsList W a0 len0 ss ∧ (len0 = 0 ∨ (len0 ≤ 8796093021952 ∧ len0 ≤ cap0 ∧ cap0 ≤ maxLen)) := by
    obtain ⟨fuel, hf⟩ := h0
    obtain ⟨ss, hl⟩ := isList_of hf
    refine ⟨ss, hl, ?_⟩
    rcases open_strings Try.underlying37 Try.underlying9 (by kernel_rfl) hf with ⟨hcs, _⟩ | ⟨y, l, c, st, hcs, _, hle, hm, hz, hx, _, _⟩
    · simp [Value.cells] at hcs
      exact Or.inl hcs.2.1
    · simp [Value.cells] at hcs
      obtain ⟨rfl, rfl, rfl⟩ := hcs
      simp only [Prod.mk.injEq] at hx
      have hd := hx.1
      have := sized_slice hsz (j := 0) (t := 37) (e := 9) rfl (by rw [hd]; rfl) Try.underlying37
      rw [show Try.prog.bytesOf 9 = 16 by kernel_rfl] at this
      have hz : st.length = cap0 := by simpa using hz
      have hl2 : (strs (H := H) (st.take len0)).length + (strs (H := H) (st.drop len0)).length = st.length := by simp [strs]; omega
      rw [hl2, hz] at this
      have hr : cap0 * 16 ≤ 140737488351232 := this
      exact Or.inr ⟨by omega, hle, hm⟩
  obtain ⟨a1, rfl, rfl, rfl, w1⟩ := open_int Try.underlying3 (hval 1 3 v1 rfl rfl) h1
  clear hA0 hval0
  refine (walk a0 len0 cap0 ss0 a1 W w0 z0).mono fun e W' ⟨he, bel⟩ => ?_
  subst he
  exact ⟨_, rfl, _, _, _, [], _, [], hW', trodAll_mk1 (shut_bool Try.underlying4 _), (trodAll_cons_mk (Below.trod laidOut (by kernel_rfl) (of_decide_eq_true (by kernel_rfl)) k0 bel lt0) (trodAll_cons_mk (shut_int Try.underlying3 w1) trodAll_mk0)), rfl, bel.frame _, fun h => by cases h⟩

theorem over : Rows.stableCutsRow.holds Try.pinned (OpenSpec.ofChange Rows.stableCutsSpec) :=
  OpenClaim.holds_of_wide 7 Try.f7 rfl rfl rfl rfl rfl rfl rfl ⟨rfl, rfl, rfl, rfl, rfl⟩ rfl rfl rfl rfl rfl (by kernel_rfl) Try.func7 (by kernel_rfl)
    (of_decide_eq_true (by kernel_rfl)) (by unfold Func.isWrapper; first | (rw [if_pos (by decide +kernel)]; kernel_rfl) | (rw [if_neg (by decide +kernel)]; exact ⟨rfl, rfl⟩))
    (fun os started H enc _ => lifted os started H enc)

/-- The statement. -/
theorem proved : Rows.StableCutsSaid := over
#print axioms proved
end Go.Proofs.Ytdkdkkledlolcaa.stableCuts
