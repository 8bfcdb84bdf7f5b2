/-
  Layer 11: whether a member may be; slices.IndexFunc at config's two closures; who sits where. Condition: chains of at most 2^63 - 1 seats.
-/
import Derived.Test.YtnagidgffkffhaaGBase
set_option linter.unusedVariables false
set_option linter.unusedSimpArgs false
namespace Go.Proofs.Ytnagidgffkffhaa.G
open Go.RowKit Cfg
set_option maxRecDepth 100000

set_option maxHeartbeats 1000000 in
theorem mayBe_any (m : MbN) (w : World) : Calls Try.prog 43 #[mbV m] w fun e w' => e = .returned (.bool (mayN m)) ∧ Below w.heap.size w w' := by
  obtain ⟨a, b⟩ := m
  have e : mayN ⟨a, b⟩ = (decide (0 ≤ a) && (decide (a < 8) && (decide (1 ≤ b) && decide (b ≤ 1099511627776)))) := rfl
  rw [e]
  clear e
  by_cases h0 : 0 ≤ a <;> by_cases h1 : a < 8 <;> by_cases h2 : 1 ≤ b <;> by_cases h3 : b ≤ 1099511627776
  all_goals first | (exfalso; omega) | skip
  all_goals
    go_enter Try.func43, Try.ntmps43
    go_wp2_with fail
    go_ret
    exact ⟨by simp <;> omega, (Below.refl _ _).alloc (Nat.le_refl _) _⟩
set_option maxHeartbeats 1000000 in
theorem may_any (m : MbN) (w : World) : Calls Try.prog 45 #[mbV m] w fun e w' => e = .returned (.bool (mayN m)) ∧ Below w.heap.size w w' := by
  obtain ⟨a, b⟩ := m
  have e : mayN ⟨a, b⟩ = (decide (0 ≤ a) && (decide (a ≤ 7) && (decide (1 ≤ b) && decide (b ≤ 1099511627776)))) := by
    show (decide (0 ≤ a) && (decide (a < 8) && _)) = _
    rw [show decide (a < 8) = decide (a ≤ 7) by rw [decide_eq_decide]; omega]
  rw [e]
  clear e
  by_cases h0 : 0 ≤ a <;> by_cases h1 : a ≤ 7 <;> by_cases h2 : 1 ≤ b <;> by_cases h3 : b ≤ 1099511627776
  all_goals first | (exfalso; omega) | skip
  all_goals
    go_enter Try.func45, Try.ntmps45
    go_wp2_with fail
    go_ret
    exact ⟨by simp <;> omega, (Below.refl _ _).alloc (Nat.le_refl _) _⟩

set_option maxHeartbeats 1000000 in
theorem placeC_any (s : StN) (g : Nat) (m : MbN) (w : World) (hm : Blk w g #[.int .i64 m.node, .int .i64 m.life] 26) :
    Calls Try.prog 47 #[stV s, .pointer (some ⟨g, 0, none⟩)] w fun e w' => e = .returned (.bool (decide (s.m = m))) ∧ Below w.heap.size w w' := by
  obtain ⟨⟨s0, s1⟩, s2⟩ := s
  obtain ⟨m0, m1⟩ := m
  have hm2 := hm.below ((Below.refl w.heap.size w).alloc (Nat.le_refl _) (.cells #[.int .i64 s0, .int .i64 s1, .bool s2] 70))
  have c0 : (w.alloc (.cells #[.int .i64 s0, .int .i64 s1, .bool s2] 70)).cell? ⟨g, 0, none⟩ = some (.int .i64 m0) := hm2.cell 0
  have c1 : (w.alloc (.cells #[.int .i64 s0, .int .i64 s1, .bool s2] 70)).cell? ⟨g, 1, none⟩ = some (.int .i64 m1) := hm2.cell 1
  clear hm2
  have hq := mb_eq ⟨s0, s1⟩ ⟨m0, m1⟩
  generalize decide ((⟨s0, s1⟩ : MbN) = ⟨m0, m1⟩) = q at *
  replace hm := Lib.hid hm
  go_enter Try.func47, Try.ntmps47
  go_wp2_with fail
  go_ret
  exact ⟨rfl, (Below.refl _ _).alloc (Nat.le_refl _) _⟩
set_option maxHeartbeats 1000000 in
theorem sitsC_any (s : StN) (g : Nat) (m : Int) (w : World) (hm : Blk w g #[.int .i64 m] 3) :
    Calls Try.prog 69 #[stV s, .pointer (some ⟨g, 0, none⟩)] w fun e w' => e = .returned (.bool (decide (s.m.node = m))) ∧ Below w.heap.size w w' := by
  obtain ⟨⟨s0, s1⟩, s2⟩ := s
  have c0 : (w.alloc (.cells #[.int .i64 s0, .int .i64 s1, .bool s2] 70)).cell? ⟨g, 0, none⟩ = some (.int .i64 m) := (hm.below ((Below.refl w.heap.size w).alloc (Nat.le_refl _) (.cells #[.int .i64 s0, .int .i64 s1, .bool s2] 70))).cell 0
  replace hm := Lib.hid hm
  go_enter Try.func69, Try.ntmps69
  go_wp2_with fail
  go_ret
  exact ⟨by first | rfl | simp, (Below.refl _ _).alloc (Nat.le_refl _) _⟩

set_option maxHeartbeats 2000000 in
theorem idxPlace_any (p : Option Addr) (cap : Nat) (l : List StN) (g : Nat) (m : MbN) (w : World) (t : Chn w p l) (hm : Blk w g #[.int .i64 m.node, .int .i64 m.life] 26) (hl : l.length ≤ 9223372036854775807) :
    Calls Try.prog 46 #[.slice p l.length cap, .func (.func 47) #[] #[.pointer (some ⟨g, 0, none⟩)]] w fun e w' => e = .returned (.int .i64 (ixN (fun s : StN => decide (s.m = m)) l)) ∧ Below w.heap.size w w' := by
  obtain ⟨R, hR⟩ : ∃ R, ixN (fun s : StN => decide (s.m = m)) l = R := ⟨_, rfl⟩
  have hix : Hid (∀ i (hi : i < l.length), decide (l[i].m = m) = true → (∀ k (hk : k < l.length), k < i → decide (l[k].m = m) = false) → (i : Int) = R) := fun i hi h hb => by rw [← hR]; exact (ixN_at (p := (fun s : StN => decide (s.m = m))) hi h hb).symm
  have hno : Hid ((∀ k (hk : k < l.length), decide (l[k].m = m) = false) → (-1 : Int) = R) := fun h => by rw [← hR]; exact (ixN_no (p := (fun s : StN => decide (s.m = m))) h).symm
  rw [hR]
  clear hR
  have hF : Hid (∀ (s : StN) (W : World), Below w.heap.size w W → Calls Try.prog 47 #[stV s, .pointer (some ⟨g, 0, none⟩)] W fun e w' => e = .returned (.bool (decide (s.m = m))) ∧ Below W.heap.size W w') := fun s W k => placeC_any s g _ W (hm.below k)
  replace t := Lib.hid t
  have hl2 : (l.length : Int) ≤ 9223372036854775807 := by omega
  replace hl := Lib.hid hl
  clear hm
  go_enter Try.func46, Try.ntmps46
  go_wp2_with fail
  go_loopw [8] (fun v wr => ∃ k : Nat, v = .int .i64 k ∧ (k : Int) ≤ l.length ∧ Hid (∀ j (hj : j < l.length), j < k → (fun s : StN => (decide (s.m = m))) l[j] = false) ∧ Hid (Below w.heap.size w wr)) (fun v _ => ((l.length : Int) - intOf v).toNat)
  case atStart => exact ⟨0, rfl, by omega, Lib.hid fun j hj h => by omega, Below.refl _ _⟩
  case round =>
    obtain ⟨k, rfl, hk, hb, b2⟩ := hrel
    by_cases hlt : (k : Int) < l.length
    · have hkl : k < l.length := by omega
      obtain ⟨b, off, rfl, c0, c1, c2⟩ := (t.out.below b2.out) k hkl
      have hix2 := Lib.hid (hix.out k hkl)
      have hcl := Lib.hid (hF.out l[k] wr b2.out)
      have hb2 : Hid ((fun s : StN => (decide (s.m = m))) l[k] = false → ∀ j (hj : j < l.length), j < k + 1 → (fun s : StN => (decide (s.m = m))) l[j] = false) := fun e j hj h => by
        rcases Nat.lt_or_ge j k with h1 | h1
        · exact hb.out j hj h1
        · obtain rfl : j = k := by omega
          exact e
      dsimp only at hb2
      generalize l[k] = s at *
      obtain ⟨⟨s0, s1⟩, s2⟩ := s
      simp only at c0 c1 c2 hix2 hcl hb2
      generalize hq : decide ((⟨s0, s1⟩ : MbN) = m) = q at *
      clear hq
      go_wp2_with fail
      refine hcl.out.mono ?_
      rintro e wc ⟨rfl, kk⟩
      have b3 := Lib.hid (b2.out.trans (kk.mono b2.out.size))
      clear kk hcl b2 c0 c1 c2
      cases q with
      | true =>
        have e := Lib.hid (hix2.out rfl fun j hj h => hb.out j hj h)
        go_wp2_with fail
        go_ret
        exact ⟨by rw [← e.out]; rfl, b3.out⟩
      | false =>
        have hb3 := Lib.hid (hb2.out rfl)
        go_wp2_with fail
        exact ⟨⟨k + 1, by go_num, by omega, hb3, b3⟩, by simp [intOf]; omega⟩
    · have e := Lib.hid (hno.out fun j hj => hb.out j hj (by omega))
      go_wp2_with fail
      go_ret
      exact ⟨by rw [← e.out]; rfl, b2.out⟩
set_option maxHeartbeats 2000000 in
theorem idxSits_any (p : Option Addr) (cap : Nat) (l : List StN) (g : Nat) (m : Int) (w : World) (t : Chn w p l) (hm : Blk w g #[.int .i64 m] 3) (hl : l.length ≤ 9223372036854775807) :
    Calls Try.prog 46 #[.slice p l.length cap, .func (.func 69) #[] #[.pointer (some ⟨g, 0, none⟩)]] w fun e w' => e = .returned (.int .i64 (ixN (fun s : StN => decide (s.m.node = m)) l)) ∧ Below w.heap.size w w' := by
  obtain ⟨R, hR⟩ : ∃ R, ixN (fun s : StN => decide (s.m.node = m)) l = R := ⟨_, rfl⟩
  have hix : Hid (∀ i (hi : i < l.length), decide (l[i].m.node = m) = true → (∀ k (hk : k < l.length), k < i → decide (l[k].m.node = m) = false) → (i : Int) = R) := fun i hi h hb => by rw [← hR]; exact (ixN_at (p := (fun s : StN => decide (s.m.node = m))) hi h hb).symm
  have hno : Hid ((∀ k (hk : k < l.length), decide (l[k].m.node = m) = false) → (-1 : Int) = R) := fun h => by rw [← hR]; exact (ixN_no (p := (fun s : StN => decide (s.m.node = m))) h).symm
  rw [hR]
  clear hR
  have hF : Hid (∀ (s : StN) (W : World), Below w.heap.size w W → Calls Try.prog 69 #[stV s, .pointer (some ⟨g, 0, none⟩)] W fun e w' => e = .returned (.bool (decide (s.m.node = m))) ∧ Below W.heap.size W w') := fun s W k => sitsC_any s g _ W (hm.below k)
  replace t := Lib.hid t
  have hl2 : (l.length : Int) ≤ 9223372036854775807 := by omega
  replace hl := Lib.hid hl
  clear hm
  go_enter Try.func46, Try.ntmps46
  go_wp2_with fail
  go_loopw [8] (fun v wr => ∃ k : Nat, v = .int .i64 k ∧ (k : Int) ≤ l.length ∧ Hid (∀ j (hj : j < l.length), j < k → (fun s : StN => (decide (s.m.node = m))) l[j] = false) ∧ Hid (Below w.heap.size w wr)) (fun v _ => ((l.length : Int) - intOf v).toNat)
  case atStart => exact ⟨0, rfl, by omega, Lib.hid fun j hj h => by omega, Below.refl _ _⟩
  case round =>
    obtain ⟨k, rfl, hk, hb, b2⟩ := hrel
    by_cases hlt : (k : Int) < l.length
    · have hkl : k < l.length := by omega
      obtain ⟨b, off, rfl, c0, c1, c2⟩ := (t.out.below b2.out) k hkl
      have hix2 := Lib.hid (hix.out k hkl)
      have hcl := Lib.hid (hF.out l[k] wr b2.out)
      have hb2 : Hid ((fun s : StN => (decide (s.m.node = m))) l[k] = false → ∀ j (hj : j < l.length), j < k + 1 → (fun s : StN => (decide (s.m.node = m))) l[j] = false) := fun e j hj h => by
        rcases Nat.lt_or_ge j k with h1 | h1
        · exact hb.out j hj h1
        · obtain rfl : j = k := by omega
          exact e
      dsimp only at hb2
      generalize l[k] = s at *
      obtain ⟨⟨s0, s1⟩, s2⟩ := s
      simp only at c0 c1 c2 hix2 hcl hb2
      generalize hq : decide (s0 = m) = q at *
      clear hq
      go_wp2_with fail
      refine hcl.out.mono ?_
      rintro e wc ⟨rfl, kk⟩
      have b3 := Lib.hid (b2.out.trans (kk.mono b2.out.size))
      clear kk hcl b2 c0 c1 c2
      cases q with
      | true =>
        have e := Lib.hid (hix2.out rfl fun j hj h => hb.out j hj h)
        go_wp2_with fail
        go_ret
        exact ⟨by rw [← e.out]; rfl, b3.out⟩
      | false =>
        have hb3 := Lib.hid (hb2.out rfl)
        go_wp2_with fail
        exact ⟨⟨k + 1, by go_num, by omega, hb3, b3⟩, by simp [intOf]; omega⟩
    · have e := Lib.hid (hno.out fun j hj => hb.out j hj (by omega))
      go_wp2_with fail
      go_ret
      exact ⟨by rw [← e.out]; rfl, b2.out⟩

set_option maxHeartbeats 1000000 in
theorem hasSits_any (p : Option Addr) (cap : Nat) (l : List StN) (g : Nat) (m : Int) (w : World) (t : Chn w p l) (hm : Blk w g #[.int .i64 m] 3) (hl : l.length ≤ 9223372036854775807) :
    Calls Try.prog 68 #[.slice p l.length cap, .func (.func 69) #[] #[.pointer (some ⟨g, 0, none⟩)]] w fun e w' => e = .returned (.bool (sitsN l m)) ∧ Below w.heap.size w w' := by
  have hc := Lib.hid (idxSits_any p cap l g m w t hm hl)
  have hx := Lib.hid (ixN_any (fun s : StN => decide (s.m.node = m)) l)
  generalize ixN (fun s : StN => decide (s.m.node = m)) l = R at *
  replace t := Lib.hid t
  replace hm := Lib.hid hm
  replace hl := Lib.hid hl
  go_enter Try.func68, Try.ntmps68
  go_wp2_with (refine hc.out.mono ?_; rintro e wc ⟨rfl, b2⟩)
  go_ret
  refine ⟨?_, b2⟩
  have : sitsN l m = decide (0 ≤ R) := hx.out.symm
  rw [this]; rfl
set_option maxHeartbeats 1000000 in
theorem sits_any (p : Option Addr) (cap : Nat) (l : List StN) (m : Int) (w : World) (t : Chn w p l) (hl : l.length ≤ 9223372036854775807) :
    Calls Try.prog 44 #[.slice p l.length cap, .int .i64 m] w fun e w' => e = .returned (.bool (sitsN l m)) ∧ Below w.heap.size w w' := by
  have ba := (Below.refl w.heap.size w).alloc (Nat.le_refl _) (.cells #[.int .i64 m] 3)
  have hc := Lib.hid (hasSits_any p cap l w.heap.size m _ (t.below ba) (Blk.new w #[.int .i64 m] 3) hl)
  replace ba := Lib.hid ba
  replace t := Lib.hid t
  replace hl := Lib.hid hl
  go_enter Try.func44, Try.ntmps44
  go_wp2_with (refine hc.out.mono ?_; rintro e wc ⟨rfl, b2⟩)
  go_ret
  exact ⟨rfl, ba.out.trans (b2.mono ba.out.size)⟩
/-- A chain as it is handed in: its block. -/
abbrev cfC (c : CfN) (p : Option Addr) (cap : Nat) : Array Value := #[.int .i64 c.epoch, .slice p c.l.length cap]
abbrev cfV (c : CfN) (p : Option Addr) (cap : Nat) : Value := .agg (cfC c p cap)
set_option maxHeartbeats 1000000 in
theorem place_any (c : CfN) (p : Option Addr) (cap : Nat) (m : MbN) (w : World) (t : Chn w p c.l) (hl : c.l.length ≤ 9223372036854775807) :
    Calls Try.prog 23 #[cfV c p cap, mbV m] w fun e w' => e = .returned (.int .i64 (placeN c.l m)) ∧ Below w.heap.size w w' := by
  obtain ⟨e0, l⟩ := c
  obtain ⟨m0, m1⟩ := m
  replace t : Chn w p l := t
  replace hl : l.length ≤ 9223372036854775807 := hl
  have ba := (Below.refl w.heap.size w).alloc (Nat.le_refl _) (.cells #[.int .i64 e0, .slice p l.length cap] 24)
  have bb := ba.alloc ba.size (.cells #[.int .i64 m0, .int .i64 m1] 26)
  have hc := Lib.hid (idxPlace_any p cap l _ ⟨m0, m1⟩ _ (t.below bb) (Blk.new (w.alloc (.cells #[.int .i64 e0, .slice p l.length cap] 24)) #[.int .i64 m0, .int .i64 m1] 26) hl)
  rw [show (w.alloc (.cells #[.int .i64 e0, .slice p l.length cap] 24)).heap.size = w.heap.size + 1 by simp] at hc
  replace bb := Lib.hid bb
  replace t := Lib.hid t
  replace hl := Lib.hid hl
  clear ba
  go_enter Try.func23, Try.ntmps23
  go_wp2_with (refine hc.out.mono ?_; rintro e wc ⟨rfl, b2⟩)
  go_ret
  exact ⟨rfl, bb.out.trans (b2.mono bb.out.size)⟩
end Go.Proofs.Ytnagidgffkffhaa.G
