/-
  Whether a chain may come behind another one is the document's; what a right one becomes is right, and may come behind it, and its own may not come behind that. Condition: none.
-/
import Derived.Test.YtnagidgffkffhaaGAwake
import Derived.Test.YtnagidgffkffhaaGOpen2
import Derived.Test.YtnagidgffkffhaaGPlain4
import Derived.Test.YtnagidgffkffhaaGMbs
import Derived.Test.YtnagidgffkffhaaGRefF
import Derived.Test.YtnagidgffkffhaaRows
namespace Go.Proofs.Ytnagidgffkffhaa.G.configFollows
open Go.ChangeShapes Go.WideShapes Go.ChangeAt Go.RowKit Cod Cfg
open Go.ChangeMaps (open_string shut_string)
set_option linter.unusedVariables false

theorem own : ownKnob Try.prog.godebug = none := by kernel_rfl

set_option linter.unusedSimpArgs false
set_option maxRecDepth 100000
abbrev oW_0 : Oper := { dst := some 13, op := Go.Op.call { callee := Go.Callee.value (Go.Operand.func 10), args := #[], argTypes := #[] }, type := 4, pos := "law.go:69", after := #[], guard := none }
abbrev oW_1 : Oper := { dst := some 14, op := Go.Op.unOp Go.UnOp.not 4 (Go.Operand.tmp 13), type := 4, pos := "law.go:69", after := #[{ on := 0, ground := Go.Ground.data }], guard := none }
abbrev oW_2 : Oper := { dst := some 15, op := Go.Op.move (Go.Operand.tmp 14), type := 4, pos := "law.go:69", after := #[{ on := 1, ground := Go.Ground.data }, { on := 0, ground := Go.Ground.chain }], guard := none }
abbrev oW_3 : Oper := { dst := some 16, op := Go.Op.load 24 (Go.Operand.tmp 3), type := 24, pos := "law.go:69", after := #[{ on := 2, ground := Go.Ground.guard }], guard := some (2, false) }
abbrev oW_4 : Oper := { dst := some 17, op := Go.Op.load 24 (Go.Operand.tmp 4), type := 24, pos := "law.go:69", after := #[{ on := 2, ground := Go.Ground.guard }], guard := some (2, false) }
abbrev oW_5 : Oper := { dst := some 18, op := Go.Op.buildSlice 72 2 #[(0, Go.Operand.tmp 16), (1, Go.Operand.tmp 17)], type := 72, pos := "law.go:69", after := #[{ on := 3, ground := Go.Ground.data }, { on := 4, ground := Go.Ground.data }, { on := 2, ground := Go.Ground.guard }], guard := some (2, false) }
abbrev oW_6 : Oper := { dst := some 19, op := Go.Op.call { callee := Go.Callee.value (Go.Operand.func 11), args := #[Go.Operand.tmp 18], argTypes := #[72] }, type := 4, pos := "law.go:69", after := #[{ on := 5, ground := Go.Ground.data }, { on := 2, ground := Go.Ground.chain }, { on := 2, ground := Go.Ground.guard }], guard := some (2, false) }
abbrev oW_7 : Oper := { dst := some 20, op := Go.Op.unOp Go.UnOp.not 4 (Go.Operand.tmp 19), type := 4, pos := "law.go:69", after := #[{ on := 6, ground := Go.Ground.data }, { on := 2, ground := Go.Ground.guard }], guard := some (2, false) }
abbrev oW_8 : Oper := { dst := some 21, op := Go.Op.pick (Go.Operand.tmp 15) (Go.Operand.const (Go.Value.bool true)) (Go.Operand.tmp 20), type := 4, pos := "law.go:69", after := #[{ on := 2, ground := Go.Ground.data }, { on := 7, ground := Go.Ground.data }], guard := none }
abbrev oW_9 : Oper := { dst := some 22, op := Go.Op.move (Go.Operand.tmp 21), type := 4, pos := "law.go:69", after := #[{ on := 8, ground := Go.Ground.data }, { on := 6, ground := Go.Ground.chain }], guard := none }
abbrev oW_10 : Oper := { dst := some 23, op := Go.Op.load 24 (Go.Operand.tmp 3), type := 24, pos := "law.go:69", after := #[{ on := 9, ground := Go.Ground.guard }], guard := some (9, false) }
abbrev oW_11 : Oper := { dst := some 24, op := Go.Op.load 24 (Go.Operand.tmp 4), type := 24, pos := "law.go:69", after := #[{ on := 9, ground := Go.Ground.guard }], guard := some (9, false) }
abbrev oW_12 : Oper := { dst := some 25, op := Go.Op.call { callee := Go.Callee.value (Go.Operand.func 31), args := #[Go.Operand.tmp 23, Go.Operand.tmp 24], argTypes := #[24, 24] }, type := 4, pos := "law.go:69", after := #[{ on := 10, ground := Go.Ground.data }, { on := 11, ground := Go.Ground.data }, { on := 9, ground := Go.Ground.chain }, { on := 9, ground := Go.Ground.guard }], guard := some (9, false) }
abbrev oW_13 : Oper := { dst := some 26, op := Go.Op.load 24 (Go.Operand.tmp 3), type := 24, pos := "law.go:69", after := #[{ on := 9, ground := Go.Ground.guard }], guard := some (9, false) }
abbrev oW_14 : Oper := { dst := some 27, op := Go.Op.load 24 (Go.Operand.tmp 4), type := 24, pos := "law.go:69", after := #[{ on := 9, ground := Go.Ground.guard }], guard := some (9, false) }
abbrev oW_15 : Oper := { dst := some 28, op := Go.Op.call { callee := Go.Callee.value (Go.Operand.func 32), args := #[Go.Operand.tmp 26, Go.Operand.tmp 27], argTypes := #[24, 24] }, type := 4, pos := "law.go:69", after := #[{ on := 13, ground := Go.Ground.data }, { on := 14, ground := Go.Ground.data }, { on := 12, ground := Go.Ground.chain }, { on := 9, ground := Go.Ground.guard }], guard := some (9, false) }
abbrev oW_16 : Oper := { dst := some 29, op := Go.Op.binOp Go.BinOp.neq 4 (Go.Operand.tmp 25) (Go.Operand.tmp 28) 4, type := 4, pos := "law.go:69", after := #[{ on := 12, ground := Go.Ground.data }, { on := 15, ground := Go.Ground.data }, { on := 9, ground := Go.Ground.guard }], guard := some (9, false) }
abbrev oW_17 : Oper := { dst := some 30, op := Go.Op.pick (Go.Operand.tmp 22) (Go.Operand.const (Go.Value.bool true)) (Go.Operand.tmp 29), type := 4, pos := "law.go:69", after := #[{ on := 9, ground := Go.Ground.data }, { on := 16, ground := Go.Ground.data }], guard := none }
theorem without_ep {a c : CfN} {g : List MbN} (h : withoutN a g = (c, 0)) : c.epoch = a.epoch + 1 := by
  obtain ⟨_, _, _, _, _, rfl⟩ := without_ok h
  rfl
theorem join_ep {a c : CfN} {m : MbN} (h : joinN a m = (c, 0)) : c.epoch = a.epoch + 1 := by
  obtain ⟨_, _, _, _, rfl⟩ := join_ok h
  rfl
/-- Two chains and a member in blocks of their own. -/
structure Bv (w : World) (e0 : Int) (p : Option Addr) (n cap : Nat) (e1 : Int) (q : Option Addr) (k1 qc : Nat) (m0 m1 : Int) (w3 : World) : Prop where
  k : Blk w3 w.heap.size #[.int .i64 e0, .slice p n cap] 24
  z : Blk w3 (w.heap.size + 1) #[.int .i64 e1, .slice q k1 qc] 24
  d : Blk w3 (w.heap.size + 2) #[.int .i64 m0, .int .i64 m1] 26
  b : Below w.heap.size w w3
section
variable {w w3 w4 : World} {e0 e1 : Int} {p q : Option Addr} {n cap k1 qc : Nat} {m0 m1 : Int}
theorem Bv.new (w : World) (e0 : Int) (p : Option Addr) (n cap : Nat) (e1 : Int) (q : Option Addr) (k1 qc : Nat) (m0 m1 : Int) : Bv w e0 p n cap e1 q k1 qc m0 m1 (((w.alloc (.cells #[.int .i64 e0, .slice p n cap] 24)).alloc (.cells #[.int .i64 e1, .slice q k1 qc] 24)).alloc (.cells #[.int .i64 m0, .int .i64 m1] 26)) := by
  have ba := (Below.refl w.heap.size w).alloc (Nat.le_refl _) (.cells #[.int .i64 e0, .slice p n cap] 24)
  have bb := ba.alloc ba.size (.cells #[.int .i64 e1, .slice q k1 qc] 24)
  have x2 := Blk.new (w.alloc (.cells #[.int .i64 e0, .slice p n cap] 24)) #[.int .i64 e1, .slice q k1 qc] 24
  have x3 := Blk.new ((w.alloc (.cells #[.int .i64 e0, .slice p n cap] 24)).alloc (.cells #[.int .i64 e1, .slice q k1 qc] 24)) #[.int .i64 m0, .int .i64 m1] 26
  simp only [World.size_alloc] at x2 x3
  exact ⟨((Blk.new w _ _).alloc _).alloc _, x2.alloc _, x3, bb.alloc bb.size _⟩
theorem Bv.below (h : Bv w e0 p n cap e1 q k1 qc m0 m1 w3) (k : Below w3.heap.size w3 w4) : Bv w e0 p n cap e1 q k1 qc m0 m1 w4 := ⟨h.k.below k, h.z.below k, h.d.below k, h.b.trans (k.mono h.b.size)⟩
theorem Bv.alloc (h : Bv w e0 p n cap e1 q k1 qc m0 m1 w3) (o : Obj) : Bv w e0 p n cap e1 q k1 qc m0 m1 (w3.alloc o) := h.below ((Below.refl _ _).alloc (Nat.le_refl _) _)
end
/-- What becomes of a chain: right, behind it, and not the other way. -/
structure Aft (e0 : Int) (l : List StN) (p : Option Addr) (cap : Nat) (d : CfN) : Prop where
  r : ∀ p8 n8 W, Chn W p8 d.l → d.l.length ≤ n8 → Calls Try.prog 21 #[.agg #[.int .i64 d.epoch, .slice p8 d.l.length n8]] W fun e w' => e = .returned (.bool true) ∧ Below W.heap.size W w'
  f : ∀ p8 n8 W, Chn W p l → Chn W p8 d.l → d.l.length ≤ n8 → Calls Try.prog 31 #[.agg #[.int .i64 e0, .slice p l.length cap], .agg #[.int .i64 d.epoch, .slice p8 d.l.length n8]] W fun e w' => e = .returned (.bool true) ∧ Below W.heap.size W w'
  g : ∀ p8 n8 W, Chn W p l → Chn W p8 d.l → d.l.length ≤ n8 → Calls Try.prog 31 #[.agg #[.int .i64 d.epoch, .slice p8 d.l.length n8], .agg #[.int .i64 e0, .slice p l.length cap]] W fun e w' => e = .returned (.bool false) ∧ Below W.heap.size W w'
theorem aft {e0 : Int} {l : List StN} {p : Option Addr} {cap : Nat} {d : CfN} (hc : l.length ≤ cap) (hl : l.length ≤ 4611686018427387904) (h : Cfg.Comes ⟨e0, l⟩ d) (hn : followsN d ⟨e0, l⟩ = false) : Aft e0 l p cap d := by
  have h8 := h.right.n2
  refine ⟨fun p8 n8 W t h3 => ?_, fun p8 n8 W t u h3 => ?_, fun p8 n8 W t u h3 => ?_⟩
  · have := right_any d p8 n8 W t h3 (by omega)
    rw [right_iff.2 h.right] at this
    exact this
  · have := follows_any ⟨e0, l⟩ d p p8 cap n8 W t u hc h3 hl (by omega)
    rw [h.foll] at this
    exact this
  · have := follows_any d ⟨e0, l⟩ p8 p n8 cap W u t h3 hc (by omega) hl
    rw [hn] at this
    exact this
set_option maxHeartbeats 8000000 in
theorem walk (a : CfN) (p : Option Addr) (cap : Nat) (b : CfN) (q : Option Addr) (qc : Nat) (m : MbN) (w : World) (t : Chn w p a.l) (hc : a.l.length ≤ cap) (hl : a.l.length ≤ 9223372036854775807) (u : Chn w q b.l) (hqc : b.l.length ≤ qc) (hql : b.l.length ≤ 9223372036854775807) :
    Calls Try.prog 5 #[cfV a p cap, cfV b q qc, mbV m] w fun e w' => e = .returned (.bool true) ∧ Below w.heap.size w w' := by
  obtain ⟨e0, l⟩ := a
  obtain ⟨e1, mm⟩ := b
  obtain ⟨m0, m1⟩ := m
  have x := Lib.hid (Bv.new w e0 p l.length cap e1 q mm.length qc m0 m1)
  have haw := Lib.hid (fun W => awake_any W)
  obtain ⟨F, hF⟩ : ∃ F, fewN [(e0, p, l.length, cap), (e1, q, mm.length, qc)] = F := ⟨_, rfl⟩
  have hfw : Hid (∀ W g, Blk W g #[.int .i64 e0, .slice p l.length cap, .int .i64 e1, .slice q mm.length qc] 24 → Calls Try.prog 11 #[.slice (some ⟨g, 0, none⟩) 2 2] W fun e w' => e = .returned (.bool F) ∧ Below W.heap.size W w') := fun W g k => by
    have h := few_any g [(e0, p, l.length, cap), (e1, q, mm.length, qc)] W (cfs_two k) (by simp)
    rw [hF] at h
    exact h
  have hF2 : F = true → l.length ≤ 40 ∧ mm.length ≤ 40 := fun h => by
    rw [← hF] at h
    simpa [fewN] using h
  clear hF
  replace t := Lib.hid t
  replace u := Lib.hid u
  replace hc := Lib.hid hc
  replace hqc := Lib.hid hqc
  replace hl := Lib.hid hl
  replace hql := Lib.hid hql
  have hS : Hid (∀ W, Bv w e0 p l.length cap e1 q mm.length qc m0 m1 W → W.cell? ⟨w.heap.size, 0, none⟩ = some (.int .i64 e0) ∧ W.cell? ⟨w.heap.size, 1, none⟩ = some (.slice p l.length cap) ∧ W.cell? ⟨w.heap.size + 1, 0, none⟩ = some (.int .i64 e1) ∧ W.cell? ⟨w.heap.size + 1, 1, none⟩ = some (.slice q mm.length qc)) := fun W h => ⟨h.k.cell 0, h.k.cell 1, h.z.cell 0, h.z.cell 1⟩
  go_enter Try.func5, Try.ntmps5
  go_upto_region 1 with fail
  generalize ((w.alloc _).alloc _).alloc _ = w3 at *
  replace x := Lib.hid (x.out.below (Below.refl _ _).drew)
  cases F with
  | true =>
    obtain ⟨hl40, hm40⟩ := hF2 rfl
    have hl62 : Hid (l.length ≤ 4611686018427387904) := by show _ ≤ _; omega
    have hm62 : Hid (mm.length ≤ 4611686018427387904) := by show _ ≤ _; omega
    clear hF2
    obtain ⟨J, hJ⟩ : ∃ J, followsN ⟨e0, l⟩ ⟨e1, mm⟩ = J := ⟨_, rfl⟩
    have hfo : Hid (∀ W, Chn W p l → Chn W q mm → Calls Try.prog 31 #[.agg #[.int .i64 e0, .slice p l.length cap], .agg #[.int .i64 e1, .slice q mm.length qc]] W fun e w' => e = .returned (.bool J) ∧ Below W.heap.size W w') := fun W h1 h2 => by
      have := follows_any ⟨e0, l⟩ ⟨e1, mm⟩ p q cap qc W h1 h2 hc.out hqc.out hl62.out hm62.out
      rw [hJ] at this
      exact this
    have hfr : Hid (∀ W, Chn W p l → Chn W q mm → Calls Try.prog 32 #[.agg #[.int .i64 e0, .slice p l.length cap], .agg #[.int .i64 e1, .slice q mm.length qc]] W fun e w' => e = .returned (.bool J) ∧ Below W.heap.size W w') := fun W h1 h2 => by
      have := refFollows_any ⟨e0, l⟩ ⟨e1, mm⟩ p q cap qc W h1 h2 hc.out hqc.out hl62.out hm62.out
      rw [hJ] at this
      exact this
    clear hJ
    refine wp_region_noPanic ?_
    refine wp_region_held_drew (S := (fun W => W.cell? ⟨w.heap.size, 0, none⟩ = some (.int .i64 e0) ∧ W.cell? ⟨w.heap.size, 1, none⟩ = some (.slice p l.length cap) ∧ W.cell? ⟨w.heap.size + 1, 0, none⟩ = some (.int .i64 e1) ∧ W.cell? ⟨w.heap.size + 1, 1, none⟩ = some (.slice q mm.length qc))) (by kernel_rfl) ?hSfoW_0 (fun hHeld => ?_)
    case hSfoW_0 => ((try dsimp only); exact (hS.out _ x.out))
    generalize w3.drew = wD at *
    refine wpAnyH_ready (rs := [0]) (by kernel_rfl) (by simp) ?_
    refine AllReadyH.cons (o := oW_0) rfl (fun K hK => ?_) ?_
    · clear hHeld
      unfold oW_0
      go_simp
      go_at_call 10
      refine (haw.out _).mono ?_
      rintro e wqf1 ⟨rfl, b8⟩
      replace x := Lib.hid (x.out.below b8)
      clear b8
      dsimp only
      refine hK.out _ _ ?hSfoW_1 (fun hHeld => ?_)
      case hSfoW_1 => ((try dsimp only); exact (hS.out _ x.out))
      clear hK K
      try simp only [Act.put, List.setIfInBounds_toArray, List.set_cons_zero, List.set_cons_succ]
      refine wpAnyH_take (i := 1) (oi := oW_1) (v := ?vfoW_2) rfl (by kernel_rfl) (by kernel_rfl) (by kernel_rfl) (fun _ _ _ h => h) (Or.inl ⟨by rfl, ?yfoW_2⟩) (by assumption) ?rfoW_2
      case yfoW_2 => (intro w hSw; (try dsimp only at hSw); unfold oW_1; go_simp; try with_reducible rfl)
      simp only [oW_1, Act.put, List.setIfInBounds_toArray, List.set_cons_zero, List.set_cons_succ]
      refine wpAnyH_take (i := 2) (oi := oW_2) (v := ?vfoW_3) rfl (by kernel_rfl) (by kernel_rfl) (by kernel_rfl) (fun _ _ _ h => h) (Or.inl ⟨by rfl, ?yfoW_3⟩) (by assumption) ?rfoW_3
      case yfoW_3 => (intro w hSw; (try dsimp only at hSw); unfold oW_2; go_simp; try with_reducible rfl)
      simp only [oW_2, Act.put, List.setIfInBounds_toArray, List.set_cons_zero, List.set_cons_succ]
      refine wpAnyH_take (i := 3) (oi := oW_3) (v := ?vfoW_4) rfl (by kernel_rfl) (by kernel_rfl) (by kernel_rfl) (fun _ _ _ h => h) (Or.inl ⟨by rfl, ?yfoW_4⟩) (by assumption) ?rfoW_4
      case yfoW_4 => (intro w hSw; (try dsimp only at hSw); unfold oW_3; go_simp; try with_reducible rfl)
      simp only [oW_3, Act.put, List.setIfInBounds_toArray, List.set_cons_zero, List.set_cons_succ]
      refine wpAnyH_take (i := 4) (oi := oW_4) (v := ?vfoW_5) rfl (by kernel_rfl) (by kernel_rfl) (by kernel_rfl) (fun _ _ _ h => h) (Or.inl ⟨by rfl, ?yfoW_5⟩) (by assumption) ?rfoW_5
      case yfoW_5 => (intro w hSw; (try dsimp only at hSw); unfold oW_4; go_simp; try with_reducible rfl)
      simp only [oW_4, Act.put, List.setIfInBounds_toArray, List.set_cons_zero, List.set_cons_succ]
      refine wpAnyH_ready (rs := [5]) (by kernel_rfl) (by simp) ?_
      refine AllReadyH.cons (o := oW_5) rfl (fun K hK => ?_) ?_
      · clear hHeld
        unfold oW_5
        go_simp
        refine hK.out _ _ ?hSfoW_6 (fun hHeld => ?_)
        case hSfoW_6 => ((try dsimp only); exact (hS.out _ (x.out.alloc _)))
        clear hK K
        try simp only [Act.put, List.setIfInBounds_toArray, List.set_cons_zero, List.set_cons_succ]
        have kf := Blk.new wqf1 #[.int .i64 e0, .slice p l.length cap, .int .i64 e1, .slice q mm.length qc] 24
        replace x := Lib.hid (x.out.alloc (.cells #[.int .i64 e0, .slice p l.length cap, .int .i64 e1, .slice q mm.length qc] 24))
        have hfx := Lib.hid (hfw.out _ _ kf)
        clear kf
        generalize wqf1.alloc _ = wqf2 at *
        generalize wqf1.heap.size = iwqf2 at *
        refine wpAnyH_ready (rs := [6]) (by kernel_rfl) (by simp) ?_
        refine AllReadyH.cons (o := oW_6) rfl (fun K hK => ?_) ?_
        · clear hHeld
          unfold oW_6
          go_simp
          go_at_call 11
          refine (hfx.out).mono ?_
          rintro e wqf3 ⟨rfl, b8⟩
          replace x := Lib.hid (x.out.below b8)
          clear b8
          clear hfx
          dsimp only
          refine hK.out _ _ ?hSfoW_7 (fun hHeld => ?_)
          case hSfoW_7 => ((try dsimp only); exact (hS.out _ x.out))
          clear hK K
          try simp only [Act.put, List.setIfInBounds_toArray, List.set_cons_zero, List.set_cons_succ]
          refine wpAnyH_take (i := 7) (oi := oW_7) (v := ?vfoW_8) rfl (by kernel_rfl) (by kernel_rfl) (by kernel_rfl) (fun _ _ _ h => h) (Or.inl ⟨by rfl, ?yfoW_8⟩) (by assumption) ?rfoW_8
          case yfoW_8 => (intro w hSw; (try dsimp only at hSw); unfold oW_7; go_simp; try with_reducible rfl)
          simp only [oW_7, Act.put, List.setIfInBounds_toArray, List.set_cons_zero, List.set_cons_succ]
          refine wpAnyH_take (i := 8) (oi := oW_8) (v := ?vfoW_9) rfl (by kernel_rfl) (by kernel_rfl) (by kernel_rfl) (fun _ _ _ h => h) (Or.inl ⟨by rfl, ?yfoW_9⟩) (by assumption) ?rfoW_9
          case yfoW_9 => (intro w hSw; (try dsimp only at hSw); unfold oW_8; go_simp; try with_reducible rfl)
          simp only [oW_8, Act.put, List.setIfInBounds_toArray, List.set_cons_zero, List.set_cons_succ]
          refine wpAnyH_take (i := 9) (oi := oW_9) (v := ?vfoW_10) rfl (by kernel_rfl) (by kernel_rfl) (by kernel_rfl) (fun _ _ _ h => h) (Or.inl ⟨by rfl, ?yfoW_10⟩) (by assumption) ?rfoW_10
          case yfoW_10 => (intro w hSw; (try dsimp only at hSw); unfold oW_9; go_simp; try with_reducible rfl)
          simp only [oW_9, Act.put, List.setIfInBounds_toArray, List.set_cons_zero, List.set_cons_succ]
          refine wpAnyH_take (i := 10) (oi := oW_10) (v := ?vfoW_11) rfl (by kernel_rfl) (by kernel_rfl) (by kernel_rfl) (fun _ _ _ h => h) (Or.inl ⟨by rfl, ?yfoW_11⟩) (by assumption) ?rfoW_11
          case yfoW_11 => (intro w hSw; (try dsimp only at hSw); unfold oW_10; go_simp; try with_reducible rfl)
          simp only [oW_10, Act.put, List.setIfInBounds_toArray, List.set_cons_zero, List.set_cons_succ]
          refine wpAnyH_take (i := 11) (oi := oW_11) (v := ?vfoW_12) rfl (by kernel_rfl) (by kernel_rfl) (by kernel_rfl) (fun _ _ _ h => h) (Or.inl ⟨by rfl, ?yfoW_12⟩) (by assumption) ?rfoW_12
          case yfoW_12 => (intro w hSw; (try dsimp only at hSw); unfold oW_11; go_simp; try with_reducible rfl)
          simp only [oW_11, Act.put, List.setIfInBounds_toArray, List.set_cons_zero, List.set_cons_succ]
          refine wpAnyH_take (i := 13) (oi := oW_13) (v := ?vfoW_13) rfl (by kernel_rfl) (by kernel_rfl) (by kernel_rfl) (fun _ _ _ h => h) (Or.inl ⟨by rfl, ?yfoW_13⟩) (by assumption) ?rfoW_13
          case yfoW_13 => (intro w hSw; (try dsimp only at hSw); unfold oW_13; go_simp; try with_reducible rfl)
          simp only [oW_13, Act.put, List.setIfInBounds_toArray, List.set_cons_zero, List.set_cons_succ]
          refine wpAnyH_take (i := 14) (oi := oW_14) (v := ?vfoW_14) rfl (by kernel_rfl) (by kernel_rfl) (by kernel_rfl) (fun _ _ _ h => h) (Or.inl ⟨by rfl, ?yfoW_14⟩) (by assumption) ?rfoW_14
          case yfoW_14 => (intro w hSw; (try dsimp only at hSw); unfold oW_14; go_simp; try with_reducible rfl)
          simp only [oW_14, Act.put, List.setIfInBounds_toArray, List.set_cons_zero, List.set_cons_succ]
          refine wpAnyH_ready (rs := [12]) (by kernel_rfl) (by simp) ?_
          refine AllReadyH.cons (o := oW_12) rfl (fun K hK => ?_) ?_
          · clear hHeld
            unfold oW_12
            go_simp
            go_at_call 31
            refine (hfo.out _ (t.out.below x.out.b) (u.out.below x.out.b)).mono ?_
            rintro e wqf4 ⟨rfl, b8⟩
            replace x := Lib.hid (x.out.below b8)
            clear b8
            dsimp only
            refine hK.out _ _ ?hSfoW_15 (fun hHeld => ?_)
            case hSfoW_15 => ((try dsimp only); exact (hS.out _ x.out))
            clear hK K
            try simp only [Act.put, List.setIfInBounds_toArray, List.set_cons_zero, List.set_cons_succ]
            refine wpAnyH_ready (rs := [15]) (by kernel_rfl) (by simp) ?_
            refine AllReadyH.cons (o := oW_15) rfl (fun K hK => ?_) ?_
            · clear hHeld
              unfold oW_15
              go_simp
              go_at_call 32
              refine (hfr.out _ (t.out.below x.out.b) (u.out.below x.out.b)).mono ?_
              rintro e wqf5 ⟨rfl, b8⟩
              replace x := Lib.hid (x.out.below b8)
              clear b8
              dsimp only
              refine hK.out _ _ ?hSfoW_16 (fun hHeld => ?_)
              case hSfoW_16 => ((try dsimp only); exact (hS.out _ x.out))
              clear hK K
              try simp only [Act.put, List.setIfInBounds_toArray, List.set_cons_zero, List.set_cons_succ]
              refine wpAnyH_take (i := 16) (oi := oW_16) (v := ?vfoW_17) rfl (by kernel_rfl) (by kernel_rfl) (by kernel_rfl) (fun _ _ _ h => h) (Or.inl ⟨by rfl, ?yfoW_17⟩) (by assumption) ?rfoW_17
              case yfoW_17 => (intro w hSw; (try dsimp only at hSw); unfold oW_16; go_simp; try with_reducible rfl)
              simp only [oW_16, Act.put, List.setIfInBounds_toArray, List.set_cons_zero, List.set_cons_succ]
              refine wpAnyH_take (i := 17) (oi := oW_17) (v := ?vfoW_18) rfl (by kernel_rfl) (by kernel_rfl) (by kernel_rfl) (fun _ _ _ h => h) (Or.inl ⟨by rfl, ?yfoW_18⟩) (by assumption) ?rfoW_18
              case yfoW_18 => (intro w hSw; (try dsimp only at hSw); unfold oW_17; go_simp; try with_reducible rfl)
              simp only [oW_17, Act.put, List.setIfInBounds_toArray, List.set_cons_zero, List.set_cons_succ]
              refine wpAnyH_done (by kernel_rfl) ?_ _
              refine NoPanic.normal ?_
              clear hHeld
              go_upto_region 3 with fail
              clear hfo hfr hfw haw hS
              obtain ⟨ca, er, hca⟩ : ∃ d e, withoutN ⟨e0, l⟩ [⟨m0, m1⟩] = (d, e) := ⟨_, _, rfl⟩
              have y0 := x.out.k.cell 0
              have y1 := x.out.k.cell 1
              have u0 := x.out.d.cell 0
              have u1 := x.out.d.cell 1
              try dsimp only at y0 y1 u0 u1
              have hcall := Lib.hid (without_any ⟨e0, l⟩ p cap [⟨m0, m1⟩] (some ⟨wqf5.heap.size, 0, none⟩) 1 _ (t.out.below (x.out.alloc (.cells #[.int .i64 m0, .int .i64 m1] 26)).b) hc.out hl62.out (mbs_one wqf5 ⟨m0, m1⟩) (by simp))
              replace x := Lib.hid (x.out.alloc (.cells #[.int .i64 m0, .int .i64 m1] 26))
              rw [hca] at hcall
              have Aca : Hid (er = 0 → Aft e0 l p cap ca) := Lib.hid fun e => aft hc.out hl62.out (comes_without (by rw [hca, e])) (not_back (without_ok (show _ = (ca, 0) by rw [hca, e])).1 (comes_without (show _ = (ca, 0) by rw [hca, e])).right (without_ep (show _ = (ca, 0) by rw [hca, e])))
              replace hca := Lib.hid hca
              go_wp2_with fail
              refine hcall.out.mono ?_
              rintro e w5 ⟨⟨pca, nca, rfl, tca, cca⟩, b8⟩
              have ba := b8.alloc b8.size (.cells #[.int .i64 ca.epoch, .slice pca ca.l.length nca] 24)
              have kca := Lib.hid (Blk.new w5 #[.int .i64 ca.epoch, .slice pca ca.l.length nca] 24)
              replace x := Lib.hid (x.out.below ba)
              replace tca := Lib.hid (tca.alloc (.cells #[.int .i64 ca.epoch, .slice pca ca.l.length nca] 24))
              replace cca := Lib.hid cca
              clear ba b8 y0 y1 u0 u1 hcall
              go_upto_region 4 with fail
              generalize w5.alloc _ = w6 at *
              generalize w5.heap.size = ica at *
              obtain ⟨cb, ef, hcb⟩ : ∃ d e, joinN ⟨e0, l⟩ ⟨m0, m1⟩ = (d, e) := ⟨_, _, rfl⟩
              have y0 := x.out.k.cell 0
              have y1 := x.out.k.cell 1
              have u0 := x.out.d.cell 0
              have u1 := x.out.d.cell 1
              try dsimp only at y0 y1 u0 u1
              have hcall := Lib.hid (join_any ⟨e0, l⟩ p cap ⟨m0, m1⟩ _ (t.out.below x.out.b) hc.out hl62.out)
              rw [hcb] at hcall
              have Acb : Hid (ef = 0 → Aft e0 l p cap cb) := Lib.hid fun e => aft hc.out hl62.out (comes_join (by rw [hcb, e])) (not_back (join_ok (show _ = (cb, 0) by rw [hcb, e])).1 (comes_join (show _ = (cb, 0) by rw [hcb, e])).right (join_ep (show _ = (cb, 0) by rw [hcb, e])))
              replace hcb := Lib.hid hcb
              go_wp2_with fail
              refine hcall.out.mono ?_
              rintro e w7 ⟨⟨pcb, ncb, rfl, tcb, ccb⟩, b8⟩
              have ba := b8.alloc b8.size (.cells #[.int .i64 cb.epoch, .slice pcb cb.l.length ncb] 24)
              have kcb := Lib.hid (Blk.new w7 #[.int .i64 cb.epoch, .slice pcb cb.l.length ncb] 24)
              replace x := Lib.hid (x.out.below ba)
              replace tcb := Lib.hid (tcb.alloc (.cells #[.int .i64 cb.epoch, .slice pcb cb.l.length ncb] 24))
              replace ccb := Lib.hid ccb
              replace kca := Lib.hid (kca.out.below ba)
              replace tca := Lib.hid (tca.out.below ba)
              clear ba b8 y0 y1 u0 u1 hcall
              go_upto_region 5 with fail
              generalize w7.alloc _ = w8 at *
              generalize w7.heap.size = icb at *
              obtain ⟨cc, eg, hcc⟩ : ∃ d e, syncN ⟨e0, l⟩ ⟨m0, m1⟩ = (d, e) := ⟨_, _, rfl⟩
              have y0 := x.out.k.cell 0
              have y1 := x.out.k.cell 1
              have u0 := x.out.d.cell 0
              have u1 := x.out.d.cell 1
              try dsimp only at y0 y1 u0 u1
              have hcall := Lib.hid (synced_any ⟨e0, l⟩ p cap ⟨m0, m1⟩ _ (t.out.below x.out.b) hc.out hl62.out)
              rw [hcc] at hcall
              have Acc : Hid (eg = 0 → Aft e0 l p cap cc) := Lib.hid fun e => aft hc.out hl62.out (comes_sync (by rw [hcc, e])) (not_back_sync (show _ = (cc, 0) by rw [hcc, e]))
              replace hcc := Lib.hid hcc
              go_wp2_with fail
              refine hcall.out.mono ?_
              rintro e w9 ⟨⟨pcc, ncc, rfl, tcc, ccc⟩, b8⟩
              have ba := b8.alloc b8.size (.cells #[.int .i64 cc.epoch, .slice pcc cc.l.length ncc] 24)
              have kcc := Lib.hid (Blk.new w9 #[.int .i64 cc.epoch, .slice pcc cc.l.length ncc] 24)
              replace x := Lib.hid (x.out.below ba)
              replace tcc := Lib.hid (tcc.alloc (.cells #[.int .i64 cc.epoch, .slice pcc cc.l.length ncc] 24))
              replace ccc := Lib.hid ccc
              replace kca := Lib.hid (kca.out.below ba)
              replace tca := Lib.hid (tca.out.below ba)
              replace kcb := Lib.hid (kcb.out.below ba)
              replace tcb := Lib.hid (tcb.out.below ba)
              clear ba b8 y0 y1 u0 u1 hcall
              go_upto_region 6 with fail
              generalize w9.alloc _ = w10 at *
              generalize w9.heap.size = icc at *
              by_cases zer : er = 0
              · subst zer
                by_cases zef : ef = 0
                · subst zef
                  by_cases zeg : eg = 0
                  · subst zeg
                    have A := Lib.hid (Aca.out (by first | rfl | trivial))
                    have z0 := kca.out.cell 0
                    have z1 := kca.out.cell 1
                    try dsimp only at z0 z1
                    have hx := Lib.hid (A.out.r _ _ _ (tca.out) cca.out)
                    go_wp2_with fail
                    refine hx.out.mono ?_
                    rintro e w9 ⟨rfl, b9⟩
                    replace x := Lib.hid (x.out.below b9)
                    replace kca := Lib.hid (kca.out.below b9)
                    replace kcb := Lib.hid (kcb.out.below b9)
                    replace kcc := Lib.hid (kcc.out.below b9)
                    replace tca := Lib.hid (tca.out.below b9)
                    replace tcb := Lib.hid (tcb.out.below b9)
                    replace tcc := Lib.hid (tcc.out.below b9)
                    clear b9 hx z0 z1
                    have z0 := kca.out.cell 0
                    have z1 := kca.out.cell 1
                    have y0 := x.out.k.cell 0
                    have y1 := x.out.k.cell 1
                    try dsimp only at z0 z1 y0 y1
                    have hx := Lib.hid (A.out.f _ _ _ (t.out.below x.out.b) tca.out cca.out)
                    go_wp2_with fail
                    refine hx.out.mono ?_
                    rintro e w9 ⟨rfl, b9⟩
                    replace x := Lib.hid (x.out.below b9)
                    replace kca := Lib.hid (kca.out.below b9)
                    replace kcb := Lib.hid (kcb.out.below b9)
                    replace kcc := Lib.hid (kcc.out.below b9)
                    replace tca := Lib.hid (tca.out.below b9)
                    replace tcb := Lib.hid (tcb.out.below b9)
                    replace tcc := Lib.hid (tcc.out.below b9)
                    clear b9 hx z0 z1 y0 y1
                    have z0 := kca.out.cell 0
                    have z1 := kca.out.cell 1
                    have y0 := x.out.k.cell 0
                    have y1 := x.out.k.cell 1
                    try dsimp only at z0 z1 y0 y1
                    have hx := Lib.hid (A.out.g _ _ _ (t.out.below x.out.b) tca.out cca.out)
                    go_wp2_with fail
                    refine hx.out.mono ?_
                    rintro e w9 ⟨rfl, b9⟩
                    replace x := Lib.hid (x.out.below b9)
                    replace kca := Lib.hid (kca.out.below b9)
                    replace kcb := Lib.hid (kcb.out.below b9)
                    replace kcc := Lib.hid (kcc.out.below b9)
                    replace tca := Lib.hid (tca.out.below b9)
                    replace tcb := Lib.hid (tcb.out.below b9)
                    replace tcc := Lib.hid (tcc.out.below b9)
                    clear b9 hx z0 z1 y0 y1
                    clear A
                    have A := Lib.hid (Acb.out (by first | rfl | trivial))
                    have z0 := kcb.out.cell 0
                    have z1 := kcb.out.cell 1
                    try dsimp only at z0 z1
                    have hx := Lib.hid (A.out.r _ _ _ (tcb.out) ccb.out)
                    go_wp2_with fail
                    refine hx.out.mono ?_
                    rintro e w9 ⟨rfl, b9⟩
                    replace x := Lib.hid (x.out.below b9)
                    replace kca := Lib.hid (kca.out.below b9)
                    replace kcb := Lib.hid (kcb.out.below b9)
                    replace kcc := Lib.hid (kcc.out.below b9)
                    replace tca := Lib.hid (tca.out.below b9)
                    replace tcb := Lib.hid (tcb.out.below b9)
                    replace tcc := Lib.hid (tcc.out.below b9)
                    clear b9 hx z0 z1
                    have z0 := kcb.out.cell 0
                    have z1 := kcb.out.cell 1
                    have y0 := x.out.k.cell 0
                    have y1 := x.out.k.cell 1
                    try dsimp only at z0 z1 y0 y1
                    have hx := Lib.hid (A.out.f _ _ _ (t.out.below x.out.b) tcb.out ccb.out)
                    go_wp2_with fail
                    refine hx.out.mono ?_
                    rintro e w9 ⟨rfl, b9⟩
                    replace x := Lib.hid (x.out.below b9)
                    replace kca := Lib.hid (kca.out.below b9)
                    replace kcb := Lib.hid (kcb.out.below b9)
                    replace kcc := Lib.hid (kcc.out.below b9)
                    replace tca := Lib.hid (tca.out.below b9)
                    replace tcb := Lib.hid (tcb.out.below b9)
                    replace tcc := Lib.hid (tcc.out.below b9)
                    clear b9 hx z0 z1 y0 y1
                    have z0 := kcb.out.cell 0
                    have z1 := kcb.out.cell 1
                    have y0 := x.out.k.cell 0
                    have y1 := x.out.k.cell 1
                    try dsimp only at z0 z1 y0 y1
                    have hx := Lib.hid (A.out.g _ _ _ (t.out.below x.out.b) tcb.out ccb.out)
                    go_wp2_with fail
                    refine hx.out.mono ?_
                    rintro e w9 ⟨rfl, b9⟩
                    replace x := Lib.hid (x.out.below b9)
                    replace kca := Lib.hid (kca.out.below b9)
                    replace kcb := Lib.hid (kcb.out.below b9)
                    replace kcc := Lib.hid (kcc.out.below b9)
                    replace tca := Lib.hid (tca.out.below b9)
                    replace tcb := Lib.hid (tcb.out.below b9)
                    replace tcc := Lib.hid (tcc.out.below b9)
                    clear b9 hx z0 z1 y0 y1
                    clear A
                    have A := Lib.hid (Acc.out (by first | rfl | trivial))
                    have z0 := kcc.out.cell 0
                    have z1 := kcc.out.cell 1
                    try dsimp only at z0 z1
                    have hx := Lib.hid (A.out.r _ _ _ (tcc.out) ccc.out)
                    go_wp2_with fail
                    refine hx.out.mono ?_
                    rintro e w9 ⟨rfl, b9⟩
                    replace x := Lib.hid (x.out.below b9)
                    replace kca := Lib.hid (kca.out.below b9)
                    replace kcb := Lib.hid (kcb.out.below b9)
                    replace kcc := Lib.hid (kcc.out.below b9)
                    replace tca := Lib.hid (tca.out.below b9)
                    replace tcb := Lib.hid (tcb.out.below b9)
                    replace tcc := Lib.hid (tcc.out.below b9)
                    clear b9 hx z0 z1
                    have z0 := kcc.out.cell 0
                    have z1 := kcc.out.cell 1
                    have y0 := x.out.k.cell 0
                    have y1 := x.out.k.cell 1
                    try dsimp only at z0 z1 y0 y1
                    have hx := Lib.hid (A.out.f _ _ _ (t.out.below x.out.b) tcc.out ccc.out)
                    go_wp2_with fail
                    refine hx.out.mono ?_
                    rintro e w9 ⟨rfl, b9⟩
                    replace x := Lib.hid (x.out.below b9)
                    replace kca := Lib.hid (kca.out.below b9)
                    replace kcb := Lib.hid (kcb.out.below b9)
                    replace kcc := Lib.hid (kcc.out.below b9)
                    replace tca := Lib.hid (tca.out.below b9)
                    replace tcb := Lib.hid (tcb.out.below b9)
                    replace tcc := Lib.hid (tcc.out.below b9)
                    clear b9 hx z0 z1 y0 y1
                    have z0 := kcc.out.cell 0
                    have z1 := kcc.out.cell 1
                    have y0 := x.out.k.cell 0
                    have y1 := x.out.k.cell 1
                    try dsimp only at z0 z1 y0 y1
                    have hx := Lib.hid (A.out.g _ _ _ (t.out.below x.out.b) tcc.out ccc.out)
                    go_wp2_with fail
                    refine hx.out.mono ?_
                    rintro e w9 ⟨rfl, b9⟩
                    replace x := Lib.hid (x.out.below b9)
                    replace kca := Lib.hid (kca.out.below b9)
                    replace kcb := Lib.hid (kcb.out.below b9)
                    replace kcc := Lib.hid (kcc.out.below b9)
                    replace tca := Lib.hid (tca.out.below b9)
                    replace tcb := Lib.hid (tcb.out.below b9)
                    replace tcc := Lib.hid (tcc.out.below b9)
                    clear b9 hx z0 z1 y0 y1
                    clear A
                    go_wp2_with fail
                    go_ret
                    exact ⟨rfl, x.out.b⟩
                  · have neg : (eg != 0) = true := by rw [bne_iff_ne]; exact zeg
                    replace zeg := Lib.hid zeg
                    have A := Lib.hid (Aca.out (by first | rfl | trivial))
                    have z0 := kca.out.cell 0
                    have z1 := kca.out.cell 1
                    try dsimp only at z0 z1
                    have hx := Lib.hid (A.out.r _ _ _ (tca.out) cca.out)
                    go_wp2_with fail
                    refine hx.out.mono ?_
                    rintro e w9 ⟨rfl, b9⟩
                    replace x := Lib.hid (x.out.below b9)
                    replace kca := Lib.hid (kca.out.below b9)
                    replace kcb := Lib.hid (kcb.out.below b9)
                    replace kcc := Lib.hid (kcc.out.below b9)
                    replace tca := Lib.hid (tca.out.below b9)
                    replace tcb := Lib.hid (tcb.out.below b9)
                    replace tcc := Lib.hid (tcc.out.below b9)
                    clear b9 hx z0 z1
                    have z0 := kca.out.cell 0
                    have z1 := kca.out.cell 1
                    have y0 := x.out.k.cell 0
                    have y1 := x.out.k.cell 1
                    try dsimp only at z0 z1 y0 y1
                    have hx := Lib.hid (A.out.f _ _ _ (t.out.below x.out.b) tca.out cca.out)
                    go_wp2_with fail
                    refine hx.out.mono ?_
                    rintro e w9 ⟨rfl, b9⟩
                    replace x := Lib.hid (x.out.below b9)
                    replace kca := Lib.hid (kca.out.below b9)
                    replace kcb := Lib.hid (kcb.out.below b9)
                    replace kcc := Lib.hid (kcc.out.below b9)
                    replace tca := Lib.hid (tca.out.below b9)
                    replace tcb := Lib.hid (tcb.out.below b9)
                    replace tcc := Lib.hid (tcc.out.below b9)
                    clear b9 hx z0 z1 y0 y1
                    have z0 := kca.out.cell 0
                    have z1 := kca.out.cell 1
                    have y0 := x.out.k.cell 0
                    have y1 := x.out.k.cell 1
                    try dsimp only at z0 z1 y0 y1
                    have hx := Lib.hid (A.out.g _ _ _ (t.out.below x.out.b) tca.out cca.out)
                    go_wp2_with fail
                    refine hx.out.mono ?_
                    rintro e w9 ⟨rfl, b9⟩
                    replace x := Lib.hid (x.out.below b9)
                    replace kca := Lib.hid (kca.out.below b9)
                    replace kcb := Lib.hid (kcb.out.below b9)
                    replace kcc := Lib.hid (kcc.out.below b9)
                    replace tca := Lib.hid (tca.out.below b9)
                    replace tcb := Lib.hid (tcb.out.below b9)
                    replace tcc := Lib.hid (tcc.out.below b9)
                    clear b9 hx z0 z1 y0 y1
                    clear A
                    have A := Lib.hid (Acb.out (by first | rfl | trivial))
                    have z0 := kcb.out.cell 0
                    have z1 := kcb.out.cell 1
                    try dsimp only at z0 z1
                    have hx := Lib.hid (A.out.r _ _ _ (tcb.out) ccb.out)
                    go_wp2_with fail
                    refine hx.out.mono ?_
                    rintro e w9 ⟨rfl, b9⟩
                    replace x := Lib.hid (x.out.below b9)
                    replace kca := Lib.hid (kca.out.below b9)
                    replace kcb := Lib.hid (kcb.out.below b9)
                    replace kcc := Lib.hid (kcc.out.below b9)
                    replace tca := Lib.hid (tca.out.below b9)
                    replace tcb := Lib.hid (tcb.out.below b9)
                    replace tcc := Lib.hid (tcc.out.below b9)
                    clear b9 hx z0 z1
                    have z0 := kcb.out.cell 0
                    have z1 := kcb.out.cell 1
                    have y0 := x.out.k.cell 0
                    have y1 := x.out.k.cell 1
                    try dsimp only at z0 z1 y0 y1
                    have hx := Lib.hid (A.out.f _ _ _ (t.out.below x.out.b) tcb.out ccb.out)
                    go_wp2_with fail
                    refine hx.out.mono ?_
                    rintro e w9 ⟨rfl, b9⟩
                    replace x := Lib.hid (x.out.below b9)
                    replace kca := Lib.hid (kca.out.below b9)
                    replace kcb := Lib.hid (kcb.out.below b9)
                    replace kcc := Lib.hid (kcc.out.below b9)
                    replace tca := Lib.hid (tca.out.below b9)
                    replace tcb := Lib.hid (tcb.out.below b9)
                    replace tcc := Lib.hid (tcc.out.below b9)
                    clear b9 hx z0 z1 y0 y1
                    have z0 := kcb.out.cell 0
                    have z1 := kcb.out.cell 1
                    have y0 := x.out.k.cell 0
                    have y1 := x.out.k.cell 1
                    try dsimp only at z0 z1 y0 y1
                    have hx := Lib.hid (A.out.g _ _ _ (t.out.below x.out.b) tcb.out ccb.out)
                    go_wp2_with fail
                    refine hx.out.mono ?_
                    rintro e w9 ⟨rfl, b9⟩
                    replace x := Lib.hid (x.out.below b9)
                    replace kca := Lib.hid (kca.out.below b9)
                    replace kcb := Lib.hid (kcb.out.below b9)
                    replace kcc := Lib.hid (kcc.out.below b9)
                    replace tca := Lib.hid (tca.out.below b9)
                    replace tcb := Lib.hid (tcb.out.below b9)
                    replace tcc := Lib.hid (tcc.out.below b9)
                    clear b9 hx z0 z1 y0 y1
                    clear A
                    go_wp2_with fail
                    go_ret
                    exact ⟨rfl, x.out.b⟩
                · have nef : (ef != 0) = true := by rw [bne_iff_ne]; exact zef
                  replace zef := Lib.hid zef
                  by_cases zeg : eg = 0
                  · subst zeg
                    have A := Lib.hid (Aca.out (by first | rfl | trivial))
                    have z0 := kca.out.cell 0
                    have z1 := kca.out.cell 1
                    try dsimp only at z0 z1
                    have hx := Lib.hid (A.out.r _ _ _ (tca.out) cca.out)
                    go_wp2_with fail
                    refine hx.out.mono ?_
                    rintro e w9 ⟨rfl, b9⟩
                    replace x := Lib.hid (x.out.below b9)
                    replace kca := Lib.hid (kca.out.below b9)
                    replace kcb := Lib.hid (kcb.out.below b9)
                    replace kcc := Lib.hid (kcc.out.below b9)
                    replace tca := Lib.hid (tca.out.below b9)
                    replace tcb := Lib.hid (tcb.out.below b9)
                    replace tcc := Lib.hid (tcc.out.below b9)
                    clear b9 hx z0 z1
                    have z0 := kca.out.cell 0
                    have z1 := kca.out.cell 1
                    have y0 := x.out.k.cell 0
                    have y1 := x.out.k.cell 1
                    try dsimp only at z0 z1 y0 y1
                    have hx := Lib.hid (A.out.f _ _ _ (t.out.below x.out.b) tca.out cca.out)
                    go_wp2_with fail
                    refine hx.out.mono ?_
                    rintro e w9 ⟨rfl, b9⟩
                    replace x := Lib.hid (x.out.below b9)
                    replace kca := Lib.hid (kca.out.below b9)
                    replace kcb := Lib.hid (kcb.out.below b9)
                    replace kcc := Lib.hid (kcc.out.below b9)
                    replace tca := Lib.hid (tca.out.below b9)
                    replace tcb := Lib.hid (tcb.out.below b9)
                    replace tcc := Lib.hid (tcc.out.below b9)
                    clear b9 hx z0 z1 y0 y1
                    have z0 := kca.out.cell 0
                    have z1 := kca.out.cell 1
                    have y0 := x.out.k.cell 0
                    have y1 := x.out.k.cell 1
                    try dsimp only at z0 z1 y0 y1
                    have hx := Lib.hid (A.out.g _ _ _ (t.out.below x.out.b) tca.out cca.out)
                    go_wp2_with fail
                    refine hx.out.mono ?_
                    rintro e w9 ⟨rfl, b9⟩
                    replace x := Lib.hid (x.out.below b9)
                    replace kca := Lib.hid (kca.out.below b9)
                    replace kcb := Lib.hid (kcb.out.below b9)
                    replace kcc := Lib.hid (kcc.out.below b9)
                    replace tca := Lib.hid (tca.out.below b9)
                    replace tcb := Lib.hid (tcb.out.below b9)
                    replace tcc := Lib.hid (tcc.out.below b9)
                    clear b9 hx z0 z1 y0 y1
                    clear A
                    have A := Lib.hid (Acc.out (by first | rfl | trivial))
                    have z0 := kcc.out.cell 0
                    have z1 := kcc.out.cell 1
                    try dsimp only at z0 z1
                    have hx := Lib.hid (A.out.r _ _ _ (tcc.out) ccc.out)
                    go_wp2_with fail
                    refine hx.out.mono ?_
                    rintro e w9 ⟨rfl, b9⟩
                    replace x := Lib.hid (x.out.below b9)
                    replace kca := Lib.hid (kca.out.below b9)
                    replace kcb := Lib.hid (kcb.out.below b9)
                    replace kcc := Lib.hid (kcc.out.below b9)
                    replace tca := Lib.hid (tca.out.below b9)
                    replace tcb := Lib.hid (tcb.out.below b9)
                    replace tcc := Lib.hid (tcc.out.below b9)
                    clear b9 hx z0 z1
                    have z0 := kcc.out.cell 0
                    have z1 := kcc.out.cell 1
                    have y0 := x.out.k.cell 0
                    have y1 := x.out.k.cell 1
                    try dsimp only at z0 z1 y0 y1
                    have hx := Lib.hid (A.out.f _ _ _ (t.out.below x.out.b) tcc.out ccc.out)
                    go_wp2_with fail
                    refine hx.out.mono ?_
                    rintro e w9 ⟨rfl, b9⟩
                    replace x := Lib.hid (x.out.below b9)
                    replace kca := Lib.hid (kca.out.below b9)
                    replace kcb := Lib.hid (kcb.out.below b9)
                    replace kcc := Lib.hid (kcc.out.below b9)
                    replace tca := Lib.hid (tca.out.below b9)
                    replace tcb := Lib.hid (tcb.out.below b9)
                    replace tcc := Lib.hid (tcc.out.below b9)
                    clear b9 hx z0 z1 y0 y1
                    have z0 := kcc.out.cell 0
                    have z1 := kcc.out.cell 1
                    have y0 := x.out.k.cell 0
                    have y1 := x.out.k.cell 1
                    try dsimp only at z0 z1 y0 y1
                    have hx := Lib.hid (A.out.g _ _ _ (t.out.below x.out.b) tcc.out ccc.out)
                    go_wp2_with fail
                    refine hx.out.mono ?_
                    rintro e w9 ⟨rfl, b9⟩
                    replace x := Lib.hid (x.out.below b9)
                    replace kca := Lib.hid (kca.out.below b9)
                    replace kcb := Lib.hid (kcb.out.below b9)
                    replace kcc := Lib.hid (kcc.out.below b9)
                    replace tca := Lib.hid (tca.out.below b9)
                    replace tcb := Lib.hid (tcb.out.below b9)
                    replace tcc := Lib.hid (tcc.out.below b9)
                    clear b9 hx z0 z1 y0 y1
                    clear A
                    go_wp2_with fail
                    go_ret
                    exact ⟨rfl, x.out.b⟩
                  · have neg : (eg != 0) = true := by rw [bne_iff_ne]; exact zeg
                    replace zeg := Lib.hid zeg
                    have A := Lib.hid (Aca.out (by first | rfl | trivial))
                    have z0 := kca.out.cell 0
                    have z1 := kca.out.cell 1
                    try dsimp only at z0 z1
                    have hx := Lib.hid (A.out.r _ _ _ (tca.out) cca.out)
                    go_wp2_with fail
                    refine hx.out.mono ?_
                    rintro e w9 ⟨rfl, b9⟩
                    replace x := Lib.hid (x.out.below b9)
                    replace kca := Lib.hid (kca.out.below b9)
                    replace kcb := Lib.hid (kcb.out.below b9)
                    replace kcc := Lib.hid (kcc.out.below b9)
                    replace tca := Lib.hid (tca.out.below b9)
                    replace tcb := Lib.hid (tcb.out.below b9)
                    replace tcc := Lib.hid (tcc.out.below b9)
                    clear b9 hx z0 z1
                    have z0 := kca.out.cell 0
                    have z1 := kca.out.cell 1
                    have y0 := x.out.k.cell 0
                    have y1 := x.out.k.cell 1
                    try dsimp only at z0 z1 y0 y1
                    have hx := Lib.hid (A.out.f _ _ _ (t.out.below x.out.b) tca.out cca.out)
                    go_wp2_with fail
                    refine hx.out.mono ?_
                    rintro e w9 ⟨rfl, b9⟩
                    replace x := Lib.hid (x.out.below b9)
                    replace kca := Lib.hid (kca.out.below b9)
                    replace kcb := Lib.hid (kcb.out.below b9)
                    replace kcc := Lib.hid (kcc.out.below b9)
                    replace tca := Lib.hid (tca.out.below b9)
                    replace tcb := Lib.hid (tcb.out.below b9)
                    replace tcc := Lib.hid (tcc.out.below b9)
                    clear b9 hx z0 z1 y0 y1
                    have z0 := kca.out.cell 0
                    have z1 := kca.out.cell 1
                    have y0 := x.out.k.cell 0
                    have y1 := x.out.k.cell 1
                    try dsimp only at z0 z1 y0 y1
                    have hx := Lib.hid (A.out.g _ _ _ (t.out.below x.out.b) tca.out cca.out)
                    go_wp2_with fail
                    refine hx.out.mono ?_
                    rintro e w9 ⟨rfl, b9⟩
                    replace x := Lib.hid (x.out.below b9)
                    replace kca := Lib.hid (kca.out.below b9)
                    replace kcb := Lib.hid (kcb.out.below b9)
                    replace kcc := Lib.hid (kcc.out.below b9)
                    replace tca := Lib.hid (tca.out.below b9)
                    replace tcb := Lib.hid (tcb.out.below b9)
                    replace tcc := Lib.hid (tcc.out.below b9)
                    clear b9 hx z0 z1 y0 y1
                    clear A
                    go_wp2_with fail
                    go_ret
                    exact ⟨rfl, x.out.b⟩
              · have ner : (er != 0) = true := by rw [bne_iff_ne]; exact zer
                replace zer := Lib.hid zer
                by_cases zef : ef = 0
                · subst zef
                  by_cases zeg : eg = 0
                  · subst zeg
                    have A := Lib.hid (Acb.out (by first | rfl | trivial))
                    have z0 := kcb.out.cell 0
                    have z1 := kcb.out.cell 1
                    try dsimp only at z0 z1
                    have hx := Lib.hid (A.out.r _ _ _ (tcb.out) ccb.out)
                    go_wp2_with fail
                    refine hx.out.mono ?_
                    rintro e w9 ⟨rfl, b9⟩
                    replace x := Lib.hid (x.out.below b9)
                    replace kca := Lib.hid (kca.out.below b9)
                    replace kcb := Lib.hid (kcb.out.below b9)
                    replace kcc := Lib.hid (kcc.out.below b9)
                    replace tca := Lib.hid (tca.out.below b9)
                    replace tcb := Lib.hid (tcb.out.below b9)
                    replace tcc := Lib.hid (tcc.out.below b9)
                    clear b9 hx z0 z1
                    have z0 := kcb.out.cell 0
                    have z1 := kcb.out.cell 1
                    have y0 := x.out.k.cell 0
                    have y1 := x.out.k.cell 1
                    try dsimp only at z0 z1 y0 y1
                    have hx := Lib.hid (A.out.f _ _ _ (t.out.below x.out.b) tcb.out ccb.out)
                    go_wp2_with fail
                    refine hx.out.mono ?_
                    rintro e w9 ⟨rfl, b9⟩
                    replace x := Lib.hid (x.out.below b9)
                    replace kca := Lib.hid (kca.out.below b9)
                    replace kcb := Lib.hid (kcb.out.below b9)
                    replace kcc := Lib.hid (kcc.out.below b9)
                    replace tca := Lib.hid (tca.out.below b9)
                    replace tcb := Lib.hid (tcb.out.below b9)
                    replace tcc := Lib.hid (tcc.out.below b9)
                    clear b9 hx z0 z1 y0 y1
                    have z0 := kcb.out.cell 0
                    have z1 := kcb.out.cell 1
                    have y0 := x.out.k.cell 0
                    have y1 := x.out.k.cell 1
                    try dsimp only at z0 z1 y0 y1
                    have hx := Lib.hid (A.out.g _ _ _ (t.out.below x.out.b) tcb.out ccb.out)
                    go_wp2_with fail
                    refine hx.out.mono ?_
                    rintro e w9 ⟨rfl, b9⟩
                    replace x := Lib.hid (x.out.below b9)
                    replace kca := Lib.hid (kca.out.below b9)
                    replace kcb := Lib.hid (kcb.out.below b9)
                    replace kcc := Lib.hid (kcc.out.below b9)
                    replace tca := Lib.hid (tca.out.below b9)
                    replace tcb := Lib.hid (tcb.out.below b9)
                    replace tcc := Lib.hid (tcc.out.below b9)
                    clear b9 hx z0 z1 y0 y1
                    clear A
                    have A := Lib.hid (Acc.out (by first | rfl | trivial))
                    have z0 := kcc.out.cell 0
                    have z1 := kcc.out.cell 1
                    try dsimp only at z0 z1
                    have hx := Lib.hid (A.out.r _ _ _ (tcc.out) ccc.out)
                    go_wp2_with fail
                    refine hx.out.mono ?_
                    rintro e w9 ⟨rfl, b9⟩
                    replace x := Lib.hid (x.out.below b9)
                    replace kca := Lib.hid (kca.out.below b9)
                    replace kcb := Lib.hid (kcb.out.below b9)
                    replace kcc := Lib.hid (kcc.out.below b9)
                    replace tca := Lib.hid (tca.out.below b9)
                    replace tcb := Lib.hid (tcb.out.below b9)
                    replace tcc := Lib.hid (tcc.out.below b9)
                    clear b9 hx z0 z1
                    have z0 := kcc.out.cell 0
                    have z1 := kcc.out.cell 1
                    have y0 := x.out.k.cell 0
                    have y1 := x.out.k.cell 1
                    try dsimp only at z0 z1 y0 y1
                    have hx := Lib.hid (A.out.f _ _ _ (t.out.below x.out.b) tcc.out ccc.out)
                    go_wp2_with fail
                    refine hx.out.mono ?_
                    rintro e w9 ⟨rfl, b9⟩
                    replace x := Lib.hid (x.out.below b9)
                    replace kca := Lib.hid (kca.out.below b9)
                    replace kcb := Lib.hid (kcb.out.below b9)
                    replace kcc := Lib.hid (kcc.out.below b9)
                    replace tca := Lib.hid (tca.out.below b9)
                    replace tcb := Lib.hid (tcb.out.below b9)
                    replace tcc := Lib.hid (tcc.out.below b9)
                    clear b9 hx z0 z1 y0 y1
                    have z0 := kcc.out.cell 0
                    have z1 := kcc.out.cell 1
                    have y0 := x.out.k.cell 0
                    have y1 := x.out.k.cell 1
                    try dsimp only at z0 z1 y0 y1
                    have hx := Lib.hid (A.out.g _ _ _ (t.out.below x.out.b) tcc.out ccc.out)
                    go_wp2_with fail
                    refine hx.out.mono ?_
                    rintro e w9 ⟨rfl, b9⟩
                    replace x := Lib.hid (x.out.below b9)
                    replace kca := Lib.hid (kca.out.below b9)
                    replace kcb := Lib.hid (kcb.out.below b9)
                    replace kcc := Lib.hid (kcc.out.below b9)
                    replace tca := Lib.hid (tca.out.below b9)
                    replace tcb := Lib.hid (tcb.out.below b9)
                    replace tcc := Lib.hid (tcc.out.below b9)
                    clear b9 hx z0 z1 y0 y1
                    clear A
                    go_wp2_with fail
                    go_ret
                    exact ⟨rfl, x.out.b⟩
                  · have neg : (eg != 0) = true := by rw [bne_iff_ne]; exact zeg
                    replace zeg := Lib.hid zeg
                    have A := Lib.hid (Acb.out (by first | rfl | trivial))
                    have z0 := kcb.out.cell 0
                    have z1 := kcb.out.cell 1
                    try dsimp only at z0 z1
                    have hx := Lib.hid (A.out.r _ _ _ (tcb.out) ccb.out)
                    go_wp2_with fail
                    refine hx.out.mono ?_
                    rintro e w9 ⟨rfl, b9⟩
                    replace x := Lib.hid (x.out.below b9)
                    replace kca := Lib.hid (kca.out.below b9)
                    replace kcb := Lib.hid (kcb.out.below b9)
                    replace kcc := Lib.hid (kcc.out.below b9)
                    replace tca := Lib.hid (tca.out.below b9)
                    replace tcb := Lib.hid (tcb.out.below b9)
                    replace tcc := Lib.hid (tcc.out.below b9)
                    clear b9 hx z0 z1
                    have z0 := kcb.out.cell 0
                    have z1 := kcb.out.cell 1
                    have y0 := x.out.k.cell 0
                    have y1 := x.out.k.cell 1
                    try dsimp only at z0 z1 y0 y1
                    have hx := Lib.hid (A.out.f _ _ _ (t.out.below x.out.b) tcb.out ccb.out)
                    go_wp2_with fail
                    refine hx.out.mono ?_
                    rintro e w9 ⟨rfl, b9⟩
                    replace x := Lib.hid (x.out.below b9)
                    replace kca := Lib.hid (kca.out.below b9)
                    replace kcb := Lib.hid (kcb.out.below b9)
                    replace kcc := Lib.hid (kcc.out.below b9)
                    replace tca := Lib.hid (tca.out.below b9)
                    replace tcb := Lib.hid (tcb.out.below b9)
                    replace tcc := Lib.hid (tcc.out.below b9)
                    clear b9 hx z0 z1 y0 y1
                    have z0 := kcb.out.cell 0
                    have z1 := kcb.out.cell 1
                    have y0 := x.out.k.cell 0
                    have y1 := x.out.k.cell 1
                    try dsimp only at z0 z1 y0 y1
                    have hx := Lib.hid (A.out.g _ _ _ (t.out.below x.out.b) tcb.out ccb.out)
                    go_wp2_with fail
                    refine hx.out.mono ?_
                    rintro e w9 ⟨rfl, b9⟩
                    replace x := Lib.hid (x.out.below b9)
                    replace kca := Lib.hid (kca.out.below b9)
                    replace kcb := Lib.hid (kcb.out.below b9)
                    replace kcc := Lib.hid (kcc.out.below b9)
                    replace tca := Lib.hid (tca.out.below b9)
                    replace tcb := Lib.hid (tcb.out.below b9)
                    replace tcc := Lib.hid (tcc.out.below b9)
                    clear b9 hx z0 z1 y0 y1
                    clear A
                    go_wp2_with fail
                    go_ret
                    exact ⟨rfl, x.out.b⟩
                · have nef : (ef != 0) = true := by rw [bne_iff_ne]; exact zef
                  replace zef := Lib.hid zef
                  by_cases zeg : eg = 0
                  · subst zeg
                    have A := Lib.hid (Acc.out (by first | rfl | trivial))
                    have z0 := kcc.out.cell 0
                    have z1 := kcc.out.cell 1
                    try dsimp only at z0 z1
                    have hx := Lib.hid (A.out.r _ _ _ (tcc.out) ccc.out)
                    go_wp2_with fail
                    refine hx.out.mono ?_
                    rintro e w9 ⟨rfl, b9⟩
                    replace x := Lib.hid (x.out.below b9)
                    replace kca := Lib.hid (kca.out.below b9)
                    replace kcb := Lib.hid (kcb.out.below b9)
                    replace kcc := Lib.hid (kcc.out.below b9)
                    replace tca := Lib.hid (tca.out.below b9)
                    replace tcb := Lib.hid (tcb.out.below b9)
                    replace tcc := Lib.hid (tcc.out.below b9)
                    clear b9 hx z0 z1
                    have z0 := kcc.out.cell 0
                    have z1 := kcc.out.cell 1
                    have y0 := x.out.k.cell 0
                    have y1 := x.out.k.cell 1
                    try dsimp only at z0 z1 y0 y1
                    have hx := Lib.hid (A.out.f _ _ _ (t.out.below x.out.b) tcc.out ccc.out)
                    go_wp2_with fail
                    refine hx.out.mono ?_
                    rintro e w9 ⟨rfl, b9⟩
                    replace x := Lib.hid (x.out.below b9)
                    replace kca := Lib.hid (kca.out.below b9)
                    replace kcb := Lib.hid (kcb.out.below b9)
                    replace kcc := Lib.hid (kcc.out.below b9)
                    replace tca := Lib.hid (tca.out.below b9)
                    replace tcb := Lib.hid (tcb.out.below b9)
                    replace tcc := Lib.hid (tcc.out.below b9)
                    clear b9 hx z0 z1 y0 y1
                    have z0 := kcc.out.cell 0
                    have z1 := kcc.out.cell 1
                    have y0 := x.out.k.cell 0
                    have y1 := x.out.k.cell 1
                    try dsimp only at z0 z1 y0 y1
                    have hx := Lib.hid (A.out.g _ _ _ (t.out.below x.out.b) tcc.out ccc.out)
                    go_wp2_with fail
                    refine hx.out.mono ?_
                    rintro e w9 ⟨rfl, b9⟩
                    replace x := Lib.hid (x.out.below b9)
                    replace kca := Lib.hid (kca.out.below b9)
                    replace kcb := Lib.hid (kcb.out.below b9)
                    replace kcc := Lib.hid (kcc.out.below b9)
                    replace tca := Lib.hid (tca.out.below b9)
                    replace tcb := Lib.hid (tcb.out.below b9)
                    replace tcc := Lib.hid (tcc.out.below b9)
                    clear b9 hx z0 z1 y0 y1
                    clear A
                    go_wp2_with fail
                    go_ret
                    exact ⟨rfl, x.out.b⟩
                  · have neg : (eg != 0) = true := by rw [bne_iff_ne]; exact zeg
                    replace zeg := Lib.hid zeg
                    go_wp2_with fail
                    go_ret
                    exact ⟨rfl, x.out.b⟩
            exact AllReadyH.nil
          exact AllReadyH.nil
        exact AllReadyH.nil
      exact AllReadyH.nil
    exact AllReadyH.nil
  | false =>
    clear hF2
    refine wp_region_noPanic ?_
    refine wp_region_held_drew (S := (fun W => W.cell? ⟨w.heap.size, 0, none⟩ = some (.int .i64 e0) ∧ W.cell? ⟨w.heap.size, 1, none⟩ = some (.slice p l.length cap) ∧ W.cell? ⟨w.heap.size + 1, 0, none⟩ = some (.int .i64 e1) ∧ W.cell? ⟨w.heap.size + 1, 1, none⟩ = some (.slice q mm.length qc))) (by kernel_rfl) ?hSnoW_0 (fun hHeld => ?_)
    case hSnoW_0 => ((try dsimp only); exact (hS.out _ x.out))
    generalize w3.drew = wD at *
    refine wpAnyH_ready (rs := [0]) (by kernel_rfl) (by simp) ?_
    refine AllReadyH.cons (o := oW_0) rfl (fun K hK => ?_) ?_
    · clear hHeld
      unfold oW_0
      go_simp
      go_at_call 10
      refine (haw.out _).mono ?_
      rintro e wqn1 ⟨rfl, b8⟩
      replace x := Lib.hid (x.out.below b8)
      clear b8
      dsimp only
      refine hK.out _ _ ?hSnoW_1 (fun hHeld => ?_)
      case hSnoW_1 => ((try dsimp only); exact (hS.out _ x.out))
      clear hK K
      try simp only [Act.put, List.setIfInBounds_toArray, List.set_cons_zero, List.set_cons_succ]
      refine wpAnyH_take (i := 1) (oi := oW_1) (v := ?vnoW_2) rfl (by kernel_rfl) (by kernel_rfl) (by kernel_rfl) (fun _ _ _ h => h) (Or.inl ⟨by rfl, ?ynoW_2⟩) (by assumption) ?rnoW_2
      case ynoW_2 => (intro w hSw; (try dsimp only at hSw); unfold oW_1; go_simp; try with_reducible rfl)
      simp only [oW_1, Act.put, List.setIfInBounds_toArray, List.set_cons_zero, List.set_cons_succ]
      refine wpAnyH_take (i := 2) (oi := oW_2) (v := ?vnoW_3) rfl (by kernel_rfl) (by kernel_rfl) (by kernel_rfl) (fun _ _ _ h => h) (Or.inl ⟨by rfl, ?ynoW_3⟩) (by assumption) ?rnoW_3
      case ynoW_3 => (intro w hSw; (try dsimp only at hSw); unfold oW_2; go_simp; try with_reducible rfl)
      simp only [oW_2, Act.put, List.setIfInBounds_toArray, List.set_cons_zero, List.set_cons_succ]
      refine wpAnyH_take (i := 3) (oi := oW_3) (v := ?vnoW_4) rfl (by kernel_rfl) (by kernel_rfl) (by kernel_rfl) (fun _ _ _ h => h) (Or.inl ⟨by rfl, ?ynoW_4⟩) (by assumption) ?rnoW_4
      case ynoW_4 => (intro w hSw; (try dsimp only at hSw); unfold oW_3; go_simp; try with_reducible rfl)
      simp only [oW_3, Act.put, List.setIfInBounds_toArray, List.set_cons_zero, List.set_cons_succ]
      refine wpAnyH_take (i := 4) (oi := oW_4) (v := ?vnoW_5) rfl (by kernel_rfl) (by kernel_rfl) (by kernel_rfl) (fun _ _ _ h => h) (Or.inl ⟨by rfl, ?ynoW_5⟩) (by assumption) ?rnoW_5
      case ynoW_5 => (intro w hSw; (try dsimp only at hSw); unfold oW_4; go_simp; try with_reducible rfl)
      simp only [oW_4, Act.put, List.setIfInBounds_toArray, List.set_cons_zero, List.set_cons_succ]
      refine wpAnyH_ready (rs := [5]) (by kernel_rfl) (by simp) ?_
      refine AllReadyH.cons (o := oW_5) rfl (fun K hK => ?_) ?_
      · clear hHeld
        unfold oW_5
        go_simp
        refine hK.out _ _ ?hSnoW_6 (fun hHeld => ?_)
        case hSnoW_6 => ((try dsimp only); exact (hS.out _ (x.out.alloc _)))
        clear hK K
        try simp only [Act.put, List.setIfInBounds_toArray, List.set_cons_zero, List.set_cons_succ]
        have kf := Blk.new wqn1 #[.int .i64 e0, .slice p l.length cap, .int .i64 e1, .slice q mm.length qc] 24
        replace x := Lib.hid (x.out.alloc (.cells #[.int .i64 e0, .slice p l.length cap, .int .i64 e1, .slice q mm.length qc] 24))
        have hfx := Lib.hid (hfw.out _ _ kf)
        clear kf
        generalize wqn1.alloc _ = wqn2 at *
        generalize wqn1.heap.size = iwqn2 at *
        refine wpAnyH_ready (rs := [6]) (by kernel_rfl) (by simp) ?_
        refine AllReadyH.cons (o := oW_6) rfl (fun K hK => ?_) ?_
        · clear hHeld
          unfold oW_6
          go_simp
          go_at_call 11
          refine (hfx.out).mono ?_
          rintro e wqn3 ⟨rfl, b8⟩
          replace x := Lib.hid (x.out.below b8)
          clear b8
          clear hfx
          dsimp only
          refine hK.out _ _ ?hSnoW_7 (fun hHeld => ?_)
          case hSnoW_7 => ((try dsimp only); exact (hS.out _ x.out))
          clear hK K
          try simp only [Act.put, List.setIfInBounds_toArray, List.set_cons_zero, List.set_cons_succ]
          refine wpAnyH_take (i := 7) (oi := oW_7) (v := ?vnoW_8) rfl (by kernel_rfl) (by kernel_rfl) (by kernel_rfl) (fun _ _ _ h => h) (Or.inl ⟨by rfl, ?ynoW_8⟩) (by assumption) ?rnoW_8
          case ynoW_8 => (intro w hSw; (try dsimp only at hSw); unfold oW_7; go_simp; try with_reducible rfl)
          simp only [oW_7, Act.put, List.setIfInBounds_toArray, List.set_cons_zero, List.set_cons_succ]
          refine wpAnyH_take (i := 8) (oi := oW_8) (v := ?vnoW_9) rfl (by kernel_rfl) (by kernel_rfl) (by kernel_rfl) (fun _ _ _ h => h) (Or.inl ⟨by rfl, ?ynoW_9⟩) (by assumption) ?rnoW_9
          case ynoW_9 => (intro w hSw; (try dsimp only at hSw); unfold oW_8; go_simp; try with_reducible rfl)
          simp only [oW_8, Act.put, List.setIfInBounds_toArray, List.set_cons_zero, List.set_cons_succ]
          refine wpAnyH_take (i := 9) (oi := oW_9) (v := ?vnoW_10) rfl (by kernel_rfl) (by kernel_rfl) (by kernel_rfl) (fun _ _ _ h => h) (Or.inl ⟨by rfl, ?ynoW_10⟩) (by assumption) ?rnoW_10
          case ynoW_10 => (intro w hSw; (try dsimp only at hSw); unfold oW_9; go_simp; try with_reducible rfl)
          simp only [oW_9, Act.put, List.setIfInBounds_toArray, List.set_cons_zero, List.set_cons_succ]
          refine wpAnyH_take (i := 10) (oi := oW_10) (v := undef) rfl (by kernel_rfl) (by kernel_rfl) (by kernel_rfl) (fun _ _ _ h => h) (Or.inr ⟨by rfl, rfl⟩) (by assumption) ?_
          simp only [oW_10, Act.put, List.setIfInBounds_toArray, List.set_cons_zero, List.set_cons_succ]
          refine wpAnyH_take (i := 11) (oi := oW_11) (v := undef) rfl (by kernel_rfl) (by kernel_rfl) (by kernel_rfl) (fun _ _ _ h => h) (Or.inr ⟨by rfl, rfl⟩) (by assumption) ?_
          simp only [oW_11, Act.put, List.setIfInBounds_toArray, List.set_cons_zero, List.set_cons_succ]
          refine wpAnyH_take (i := 13) (oi := oW_13) (v := undef) rfl (by kernel_rfl) (by kernel_rfl) (by kernel_rfl) (fun _ _ _ h => h) (Or.inr ⟨by rfl, rfl⟩) (by assumption) ?_
          simp only [oW_13, Act.put, List.setIfInBounds_toArray, List.set_cons_zero, List.set_cons_succ]
          refine wpAnyH_take (i := 14) (oi := oW_14) (v := undef) rfl (by kernel_rfl) (by kernel_rfl) (by kernel_rfl) (fun _ _ _ h => h) (Or.inr ⟨by rfl, rfl⟩) (by assumption) ?_
          simp only [oW_14, Act.put, List.setIfInBounds_toArray, List.set_cons_zero, List.set_cons_succ]
          refine wpAnyH_take (i := 12) (oi := oW_12) (v := undef) rfl (by kernel_rfl) (by kernel_rfl) (by kernel_rfl) (fun _ _ _ h => h) (Or.inr ⟨by rfl, rfl⟩) (by assumption) ?_
          simp only [oW_12, Act.put, List.setIfInBounds_toArray, List.set_cons_zero, List.set_cons_succ]
          refine wpAnyH_take (i := 15) (oi := oW_15) (v := undef) rfl (by kernel_rfl) (by kernel_rfl) (by kernel_rfl) (fun _ _ _ h => h) (Or.inr ⟨by rfl, rfl⟩) (by assumption) ?_
          simp only [oW_15, Act.put, List.setIfInBounds_toArray, List.set_cons_zero, List.set_cons_succ]
          refine wpAnyH_take (i := 16) (oi := oW_16) (v := undef) rfl (by kernel_rfl) (by kernel_rfl) (by kernel_rfl) (fun _ _ _ h => h) (Or.inr ⟨by rfl, rfl⟩) (by assumption) ?_
          simp only [oW_16, Act.put, List.setIfInBounds_toArray, List.set_cons_zero, List.set_cons_succ]
          refine wpAnyH_take (i := 17) (oi := oW_17) (v := ?vnoW_18) rfl (by kernel_rfl) (by kernel_rfl) (by kernel_rfl) (fun _ _ _ h => h) (Or.inl ⟨by rfl, ?ynoW_18⟩) (by assumption) ?rnoW_18
          case ynoW_18 => (intro w hSw; (try dsimp only at hSw); unfold oW_17; go_simp; try with_reducible rfl)
          simp only [oW_17, Act.put, List.setIfInBounds_toArray, List.set_cons_zero, List.set_cons_succ]
          refine wpAnyH_done (by kernel_rfl) ?_ _
          refine NoPanic.normal ?_
          clear hHeld
          have y0 := x.out.k.cell 0
          have y1 := x.out.k.cell 1
          have z0 := x.out.z.cell 0
          have z1 := x.out.z.cell 1
          try dsimp only at y0 y1 z0 z1
          clear y0 y1 z0 z1
          go_wp2_with fail
          refine (haw.out _).mono ?_
          rintro e w4 ⟨rfl, b4⟩
          replace x := Lib.hid (x.out.below b4)
          clear b4
          have y0 := x.out.k.cell 0
          have y1 := x.out.k.cell 1
          have z0 := x.out.z.cell 0
          have z1 := x.out.z.cell 1
          try dsimp only at y0 y1 z0 z1
          have kf := Blk.new w4 #[.int .i64 e0, .slice p l.length cap, .int .i64 e1, .slice q mm.length qc] 24
          replace x := Lib.hid (x.out.alloc (.cells #[.int .i64 e0, .slice p l.length cap, .int .i64 e1, .slice q mm.length qc] 24))
          have hfx := Lib.hid (hfw.out _ _ kf)
          clear kf
          go_wp2_with fail
          refine hfx.out.mono ?_
          rintro e w5 ⟨rfl, b5⟩
          replace x := Lib.hid (x.out.below b5)
          clear b5 y0 y1 z0 z1 hfx
          go_wp2_with fail
          go_ret
          exact ⟨rfl, x.out.b⟩
        exact AllReadyH.nil
      exact AllReadyH.nil
    exact AllReadyH.nil

set_option maxRecDepth 100000 in
theorem lifted (os : Os) (started : os.Started) (H : Type) (enc : TypeId × Value → H) :
    ReturnsInHanded {} Try.checked os 5 .any (Rows.configFollowsSpec.pre6 enc Try.prog Try.f5 Rows.configFollowsRow.domain false) (Rows.configFollowsSpec.post enc Try.prog Try.f5 false true false false) := by
  refine returnsInHanded_of_change (C := Try.checked) own started (by kernel_rfl) Try.func5
    (ChangeSpec.witness6 (enc := enc) (C := Try.checked) false ⟨#[], #[.agg #[.int .i64 0, .slice none 0 0], .agg #[.int .i64 0, .slice none 0 0], .agg #[.int .i64 0, .int .i64 0]], []⟩ 8 (by kernel_rfl) (by kernel_rfl) (by kernel_rfl) (by kernel_rfl)) ?_
  intro W base args ds gs before hval0 hW _ _
  have hval : ∀ (j : Nat) t v, Try.f5.params[j]? = some t → args[j]? = some v → Value.okWide Try.prog W .any base t v := hval0
  have hW' := hW
  obtain ⟨p, q, hA0, hV, rfl, hfz, hnd⟩ := hW
  have hA : DataW.TrodAll enc Try.prog W 0 (fun _ => true) true Try.f5.params.toList args.toList ds p := hA0
  rw [Try.params5] at hA hval
  obtain ⟨v0, vs0, d0, ds0, p0, q0, hargs, rfl, rfl, h0, r0⟩ := trodAll_cons hA
  obtain ⟨v1, vs1, d1, ds1, p1, q1, rfl, rfl, rfl, h1, r1⟩ := trodAll_cons r0
  obtain ⟨v2, vs2, d2, ds2, p2, q2, rfl, rfl, rfl, h2, r2⟩ := trodAll_cons r1
  obtain ⟨rfl, rfl, rfl⟩ := trodAll_nil r2
  obtain rfl : args = #[v0, v1, v2] := by cases args; simp_all
  obtain ⟨rfl, rfl⟩ := trodVars_none hV
  have k0 := h0
  have lt0 : ∀ x ∈ p0, x.block < W.heap.size := by obtain ⟨m, hm⟩ := k0; exact DataW.trod_lt m _ _ _ hm
  obtain ⟨a0, q0, cap0, rfl, w0, hc0, hl0⟩ := open_cf (hval 0 24 v0 rfl rfl) h0
  have k1 := h1
  have lt1 : ∀ x ∈ p1, x.block < W.heap.size := by obtain ⟨m, hm⟩ := k1; exact DataW.trod_lt m _ _ _ hm
  obtain ⟨a1, q1, cap1, rfl, w1, hc1, hl1⟩ := open_cf (hval 1 24 v1 rfl rfl) h1
  have k2 := h2
  have lt2 : ∀ x ∈ p2, x.block < W.heap.size := by obtain ⟨m, hm⟩ := k2; exact DataW.trod_lt m _ _ _ hm
  obtain ⟨a2, rfl⟩ := open_mb (hval 2 26 v2 rfl rfl) h2
  clear hA0 hval0
  refine (walk a0 q0 cap0 a1 q1 cap1 a2 W w0 hc0 hl0 w1 hc1 hl1).mono fun e W' ⟨he, bel⟩ => ?_
  subst he
  exact ⟨_, rfl, _, _, _, [], _, [], hW', trodAll_mk1 (shut_bool Try.underlying4 _), (trodAll_cons_mk (Below.trod laidOut11 (by kernel_rfl) (of_decide_eq_true (by kernel_rfl)) k0 bel lt0) (trodAll_cons_mk (Below.trod laidOut11 (by kernel_rfl) (of_decide_eq_true (by kernel_rfl)) k1 bel lt1) (trodAll_cons_mk (Below.trod laidOut11 (by kernel_rfl) (of_decide_eq_true (by kernel_rfl)) k2 bel lt2) trodAll_mk0))), rfl, bel.frame _, fun h => by cases h⟩

theorem over : Rows.configFollowsRow.holds Try.pinned (OpenSpec.ofChange Rows.configFollowsSpec) :=
  OpenClaim.holds_of_wide 5 Try.f5 rfl rfl rfl rfl rfl rfl rfl ⟨rfl, rfl, rfl, rfl, rfl⟩ rfl rfl rfl rfl rfl (by kernel_rfl) Try.func5 (by kernel_rfl)
    (of_decide_eq_true (by kernel_rfl)) (by unfold Func.isWrapper; first | (rw [if_pos (by decide +kernel)]; kernel_rfl) | (rw [if_neg (by decide +kernel)]; exact ⟨rfl, rfl⟩))
    (fun os started H enc _ => lifted os started H enc)

/-- The statement. -/
theorem proved : Rows.ConfigFollowsSaid := over
#print axioms proved
end Go.Proofs.Ytnagidgffkffhaa.G.configFollows
