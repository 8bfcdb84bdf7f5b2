/-
  NextCaches: however often a cache is asked, the next time is told, and each text is parsed once. No condition but what the card lists.
-/
import Derived.Test.YtohogchnjeddeaaGreatDoorNCaches
set_option linter.unusedVariables false
namespace Go.Proofs.YtohogchnjeddeaaGreatDoor.nextCaches
open Go.ChangeShapes Go.WideShapes Go.ChangeAt Go.RowKit Crn Nxt Civ
open Go.ChangeMaps (open_string shut_string)

theorem laidOut : laidOutB Tryz.prog = true := by kernel_rfl
/-- A text inside a slice that came in is no longer than the form's own reach. -/
theorem weights_in {H : Type} {P : Program} {e : TypeId} : ∀ {l : List (DataW H)} {d : DataW H}, d ∈ l → ∀ n ∈ d.weights P e, n ∈ DataW.weightsAll P e l
  | d' :: r, d, hd, n, hn => by
    simp only [DataW.weightsAll, List.mem_append]
    rcases List.mem_cons.1 hd with rfl | h
    · exact Or.inl hn
    · exact Or.inr (weights_in h n hn)
theorem sized_text {H : Type} {P : Program} {ts : List TypeId} {ds : List (DataW H)} (h : (DataW.weightsEach P ts ds).all (· ≤ reachBytes) = true) {j : Nat} {t e : TypeId} {xs : List ByteArray} {sp : List (DataW H)}
    (ht : ts[j]? = some t) (hd : ds[j]? = some (.slice (strs xs) sp)) (hu : P.underlying t = some (.slice e)) {s : ByteArray} (hs : s ∈ xs) : s.size ≤ 281474976710656 := by
  have h1 : s.data.toList.length ≤ reachBytes := by
    refine of_decide_eq_true (List.all_eq_true.1 h _ (DataW.weights_mem_each ht hd _ ?_))
    simp only [DataW.weights, hu, List.mem_cons, List.mem_append]
    exact Or.inr (Or.inl (weights_in (d := .lit (.string s.data.toList)) (List.mem_map.2 ⟨s, hs, rfl⟩) _ (by simp [DataW.weights])))
  have h2 := reachBytes_lt
  have h3 : s.data.toList.length = s.size := by simp
  omega
theorem txt_of {H : Type} {enc : TypeId × Value → H} {W : World} {fuel : Nat} {a : Option Addr} {len cap : Nat} {x : DataW H × List MemPlace}
    (h : DataW.trod enc Tryz.prog W 0 (fun _ => true) true fuel 33 (Value.cells (.slice a len cap)).toList = some x) (hsz : ∀ xs sp, x.1 = .slice (strs xs) sp → ∀ s ∈ xs, s.size ≤ 281474976710656) : ∃ ss, Txt W a len ss := by
  rcases open_strings Tryz.underlying33 Tryz.underlying9 (by kernel_rfl) h with ⟨hcs, _⟩ | ⟨y, l, c, ss, hcs, _, hl, hm, hz, hx, hcell, hws⟩
  · simp [Value.cells] at hcs
    exact ⟨fun _ => ByteArray.empty, fun i hi => by omega⟩
  · simp [Value.cells] at hcs
    obtain ⟨rfl, rfl, rfl⟩ := hcs
    refine ⟨fun i => ss.getD i ByteArray.empty, fun i hi => ?_⟩
    obtain ⟨b, off, spot⟩ := y
    have hz : ss.length = cap := by simpa using hz
    have hc := hcell i (by omega)
    have hc0 := hcell 0 (by omega)
    have hspot : spot = none := by simpa [Addr.add] using World.cell?_spot hc0
    subst hspot
    have hadd : (⟨b, off, none⟩ : Addr).add i = ⟨b, off + i, none⟩ := by unfold Addr.add; split <;> simp_all
    rw [hadd] at hc
    refine ⟨b, off, rfl, hc, ?_⟩
    subst hx
    refine hsz _ _ rfl _ ?_
    show ss.getD i ByteArray.empty ∈ _
    rw [List.getD_eq_getElem?_getD, List.getElem?_eq_getElem (by omega)]
    have : (ss.take len)[i]'(by rw [List.length_take]; omega) = ss[i] := List.getElem_take
    simp only [Option.getD_some]
    rw [← this]
    exact List.getElem_mem _

set_option maxRecDepth 100000 in
set_option maxHeartbeats 2000000 in
theorem walk (a : Option Addr) (n cap : Nat) (ss : Nat → ByteArray) (after : Int) (hwf : (Lit.int .i64 after).wf = true) (w : World) (tb : Tab w) (nt : NTab w) (htx : Txt w a n ss) :
    Calls Tryz.prog 6 #[.slice a n cap, .int .i64 after] w fun e w' => e = .returned (.bool true) ∧ Below w.heap.size w w' := by
  have s12 := wf_i64 hwf
  have Cw := Lib.hid (fun W h1 h2 => awake_any W h1 h2)
  have Cn := Lib.hid (fun W h => new_any W h)
  have Cc := Lib.hid (fun W b k m l s (t1 : Tab W) (t2 : NTab W) (hs : s.size ≤ 281474976710656) (ha : k ≤ 12) (hp : l.length ≤ k) (h : Ca W b k l.length m l) => cache_any W b k m l s after t1 t2 hs (by omega) (by omega) s12.1 s12.2 h)
  have Ct := Lib.hid (fun W b k p m l (h : Ca W b k p m l) => counts_any W b k p m l h)
  have Cz := Lib.hid (fun W => next_nil ByteArray.empty 0 W)
  have Cp := Lib.hid (fun W s (hs : s.size ≤ 281474976710656) => refParse_all s W hs)
  have Cx := Lib.hid (fun W x (hx : Fits x) => refNext_any x hx after s12.1 s12.2 W)
  clear hwf s12
  replace tb := Lib.hid tb
  replace nt := Lib.hid nt
  replace htx := Lib.hid htx
  have hbr := Lib.hid (Below.refl w.heap.size w)
  have ht0 : Hid (topTab < w.heap.size) := by
    have h1 := tb.out.size
    have h2 := nt.out.size
    unfold Hid topTab
    omega
  by_cases hn : (n : Int) ≤ 12
  · have hm1 := make31 n (by omega)
    have hm2 := make36 n (by omega)
    have hm3 := make37
    go_enter Tryz.func6, Tryz.ntmps6
    go_wp2_with fail
    refine (Cw.out _ tb.out nt.out).mono ?_
    rintro e w1 ⟨rfl, g⟩
    have t1 := Lib.hid (tb.out.below g)
    have n1 := Lib.hid (nt.out.below g)
    have b1 := Lib.hid g
    clear g
    have htop := Lib.hid (Nat.lt_of_lt_of_le ht0.out b1.out.size)
    go_wp2_with fail
    refine (Cn.out _ htop.out).mono ?_
    rintro e w2 ⟨rfl, hca, g, hsz⟩
    clear hsz
    have hA := Lib.hid (Asked.start (n := n) ss after (t1.out.below g) (n1.out.below g) (b1.out.trans (g.mono b1.out.size)) hca b1.out.size ht0.out)
    clear g t1 n1 b1 hca htop
    generalize w1.heap.size = b at *
    go_wp2_with fail
    generalize hW : (((w2.alloc (.cells (madeCells #[.int .i64 0] n) 3)).alloc (.cells (madeCells #[.int .i64 0] n) 38)).alloc (.map #[] 0)) = W3 at *
    clear hW hm1 hm2 hm3
    generalize w2.heap.size + 1 + 1 = nb at *
    generalize w2.heap.size + 1 = ge at *
    generalize w2.heap.size = ga at *
    go_loopw [40] (fun v wr => ∃ (k : Nat) (m : Option Nat) (l : List (ByteArray × Nat)), v = .int .i64 k ∧ (k : Int) ≤ n ∧ Hid (Asked w wr n ss after b ga ge nb k k m l (l.map (·.1)))) (fun v _ => ((n : Int) - intOf v).toNat)
    case atStart => exact ⟨0, none, [], rfl, by omega, hA⟩
    case round =>
      obtain ⟨k, m, l, rfl, hk, hA2⟩ := hrel
      clear hA
      by_cases hkn : (k : Int) < n
      · obtain ⟨tb2, to2, rfl, hc0, hz⟩ := htx.out k (by omega)
        have hc : wr.cell? ⟨tb2, to2 + k, none⟩ = some (.string (ss k)) := (hA2.out.below.cell (p := ⟨tb2, to2 + k, none⟩) (World.block_lt_of_cell? w _ hc0)).trans hc0
        clear hc0
        generalize hs : ss k = s at *
        replace hs := Lib.hid hs
        obtain ⟨ns2, ho2, hn2⟩ : ∃ ns2, (s ∈ l.map (·.1) → ns2 = l.map (·.1)) ∧ (s ∉ l.map (·.1) → ns2 = l.map (·.1) ++ [s]) := by
          by_cases h : s ∈ l.map (·.1)
          · exact ⟨_, fun _ => rfl, fun h2 => absurd h h2⟩
          · exact ⟨_, fun h2 => absurd h2 h, fun _ => rfl⟩
        obtain ⟨w4, hrun, hm4, ho4, e4, e5, e6, e7⟩ := one_put hA2.out.names (fun x hx => by
          obtain ⟨q, hq, rfl⟩ := List.mem_map.1 hx
          exact (hA2.out.ca.rd q hq).2.2) s hz ns2 ho2 hn2
        have hA4 := Lib.hid (hA2.out.named hm4 ho4 e4 e5 e6 e7)
        clear hm4 ho4 e4 e5 e6 e7
        replace ho2 := Lib.hid ho2
        replace hn2 := Lib.hid hn2
        have cc := Lib.hid (Cc.out w4 b k m l s hA4.out.tb hA4.out.nt hz (by omega) hA4.out.len hA4.out.ca)
        unfold answerC at cc
        go_wp2_with fail
        refine cc.out.mono ?_
        rintro e w5 ⟨rfl, m', l', hb⟩
        have hA5 := Lib.hid (hA4.out.asked hb)
        have hnl : Hid (ns2 = l'.map (·.1)) := by
          by_cases h : s ∈ l.map (·.1)
          · exact (ho2.out h).trans (hb.old h).symm
          · exact (hn2.out h).trans (hb.new h).symm
        clear hb cc hA4 hA2 ho2 hn2 hrun hc
        rw [hnl.out] at hA5
        clear hnl
        have hA6 := Lib.hid (hA5.out.filled)
        rw [hs.out] at hA6
        obtain ⟨f, f1, _⟩ := hA5.out.at_
        obtain ⟨g, g1, _⟩ := hA5.out.er
        have c1 := f1.cell (i := k) (by omega)
        have c2 := f1.free k
        have g2 := (g1.kept (w' := w5.setCell ⟨ga, k, none⟩ (.int .i64 (atC s after))) (heap_setCell_other _ _ _ _ (Ne.symm hA5.out.two.1)))
        have c3 := g2.cell (i := k) (by omega)
        have c4 := g2.free k
        clear f1 g1 g2 hA5
        generalize atC s after = A at *
        generalize erC s after = E at *
        go_wp2_with fail
        exact ⟨⟨k + 1, m', l', by go_num, by omega, hA6⟩, by simp [intOf]; omega⟩
      · have hkn2 : k = n := by omega
        subst hkn2
        have hk12 : Hid (k ≤ 12) := by unfold Hid; omega
        go_wp2_with fail
        go_loopw [63] (fun v w7 => ∃ j : Nat, v = .int .i64 j ∧ (j : Int) ≤ k ∧ Hid (Asked w w7 k ss after b ga ge nb k k m l (l.map (·.1)))) (fun v _ => ((k : Int) - intOf v).toNat)
        case atStart => exact ⟨0, rfl, by omega, hA2⟩
        case round =>
          obtain ⟨j, rfl, hj, hA⟩ := hrel
          clear hA2
          by_cases hjk : (j : Int) < k
          · obtain ⟨tb2, to2, rfl, hc0, hz⟩ := htx.out j (by omega)
            have hc : wr.cell? ⟨tb2, to2 + j, none⟩ = some (.string (ss j)) := (hA.out.below.cell (p := ⟨tb2, to2 + j, none⟩) (World.block_lt_of_cell? w _ hc0)).trans hc0
            clear hc0
            obtain ⟨x, ok, is, t, A, E, hp, hfx, hnx, hA3, hE3, hcase⟩ : ∃ (x : SpecN) (ok is : Bool) (t A E : Int), answerP (parse (ss j).data.toList) = .returned (.tuple #[specV x, .bool ok]) ∧ Fits x ∧ answerX (nextN x after) = .returned (.tuple #[.int .i64 t, .bool is]) ∧ atC (ss j) after = A ∧ erC (ss j) after = E ∧
                ((ok = false ∧ E = 7 ∧ A = 0) ∨ (ok = true ∧ is = false ∧ E = 10 ∧ A = 0) ∨ (ok = true ∧ is = true ∧ E = 0 ∧ A = t)) := by
              cases hq : parse (ss j).data.toList with
              | none => exact ⟨zero, false, (nextN zero after).isSome, (nextN zero after).getD 0, 0, 7, rfl, (by constructor <;> decide), rfl, by unfold atC; rw [hq], by unfold erC; rw [hq], Or.inl ⟨rfl, rfl, rfl⟩⟩
              | some y =>
                have hfy := right_fits (parse_right hq)
                cases hr : nextN y after with
                | none => exact ⟨y, true, false, 0, 0, 10, rfl, hfy, by rw [hr]; rfl, by unfold atC; rw [hq]; simp only [hr]; rfl, by unfold erC; rw [hq]; simp only [hr]; rfl, Or.inr (Or.inl ⟨rfl, rfl, rfl, rfl⟩)⟩
                | some t => exact ⟨y, true, true, t, t, 0, rfl, hfy, by rw [hr]; rfl, by unfold atC; rw [hq]; simp only [hr]; rfl, by unfold erC; rw [hq]; simp only [hr]; rfl, Or.inr (Or.inr ⟨rfl, rfl, rfl, rfl⟩)⟩
            have cp := Lib.hid (Cp.out wr (ss j) hz)
            rw [hp] at cp
            have cx := Lib.hid (fun W => Cx.out W x hfx)
            rw [hnx] at cx
            obtain ⟨fa, f1, f2⟩ := hA.out.at_
            obtain ⟨fe, g1, g2⟩ := hA.out.er
            have eA := (f2 j (by omega)).trans hA3
            have eE := (g2 j (by omega)).trans hE3
            have c1 := f1.cell (i := j) (by omega)
            have c2 := g1.cell (i := j) (by omega)
            rw [eA] at c1
            rw [eE] at c2
            have hcl : Hid (ga < wr.heap.size ∧ ge < wr.heap.size) := ⟨f1.lt, g1.lt⟩
            clear f1 f2 g1 g2 eA eE hp hnx hA3 hE3 hfx
            replace c1 := Lib.hid c1
            replace c2 := Lib.hid c2
            replace hcase := Lib.hid hcase
            obtain ⟨x0, x1, x2, x3, x4, x5, x6, x7⟩ := x
            simp only [specV, cellsN] at cp cx
            go_wp2_with fail
            refine cp.out.mono ?_
            rintro e w8 ⟨rfl, g⟩
            have hA8 := Lib.hid (hA.out.keep g)
            have d1 := Lib.hid ((g.cell (p := ⟨ga, j, none⟩) hcl.out.1).trans c1.out)
            have d2 := Lib.hid ((g.cell (p := ⟨ge, j, none⟩) hcl.out.2).trans c2.out)
            have hcl8 : Hid (ga < w8.heap.size ∧ ge < w8.heap.size) := ⟨Nat.lt_of_lt_of_le hcl.out.1 g.size, Nat.lt_of_lt_of_le hcl.out.2 g.size⟩
            clear g cp hA c1 c2 hcl hc
            have hA9 := Lib.hid (hA8.out.keep ((Below.refl _ _).alloc (Nat.le_refl _) (.cells #[.int .u64 x0, .int .u64 x1, .int .u64 x2, .int .u64 x3, .int .u64 x4, .bool x5, .bool x6, .int .i64 x7] 24)))
            go_wp2_with fail
            have al := (Below.refl w8.heap.size w8).alloc (Nat.le_refl _) (.cells #[.int .u64 x0, .int .u64 x1, .int .u64 x2, .int .u64 x3, .int .u64 x4, .bool x5, .bool x6, .int .i64 x7] 24)
            have d3 := Lib.hid ((al.cell (p := ⟨ga, j, none⟩) hcl8.out.1).trans d1.out)
            have d4 := Lib.hid ((al.cell (p := ⟨ge, j, none⟩) hcl8.out.2).trans d2.out)
            have hcl9 : Hid (ga < (w8.alloc (.cells #[.int .u64 x0, .int .u64 x1, .int .u64 x2, .int .u64 x3, .int .u64 x4, .bool x5, .bool x6, .int .i64 x7] 24)).heap.size ∧ ge < (w8.alloc (.cells #[.int .u64 x0, .int .u64 x1, .int .u64 x2, .int .u64 x3, .int .u64 x4, .bool x5, .bool x6, .int .i64 x7] 24)).heap.size) := ⟨Nat.lt_of_lt_of_le hcl8.out.1 al.size, Nat.lt_of_lt_of_le hcl8.out.2 al.size⟩
            clear al d1 d2 hcl8 hA8
            refine (cx.out _).mono ?_
            rintro e w9 ⟨rfl, g⟩
            have hA10 := Lib.hid (hA9.out.keep g)
            have d1 := (g.cell (p := ⟨ga, j, none⟩) hcl9.out.1).trans d3.out
            have d2 := (g.cell (p := ⟨ge, j, none⟩) hcl9.out.2).trans d4.out
            clear g cx d3 d4 hcl9 hA9
            rcases hcase.out with ⟨rfl, rfl, rfl⟩ | ⟨rfl, rfl, rfl, rfl⟩ | ⟨rfl, rfl, rfl, rfl⟩
            all_goals clear hcase
            all_goals go_wp2_with fail
            all_goals exact ⟨⟨j + 1, by go_num, by omega, hA10⟩, by simp [intOf]; omega⟩
          · have hle := Lib.hid hA.out.ca
            have hlen := hA.out.names.len
            have ct := Lib.hid (Ct.out _ b k l.length m l hA.out.ca)
            have hb0 := Lib.hid hA.out.below
            go_wp2_with fail
            refine ct.out.mono ?_
            rintro e w8 ⟨rfl, g⟩
            have hA8 := Lib.hid (hA.out.keep g)
            clear g ct hA hb0 hle hlen
            go_wp2_with fail
            refine (Cz.out _).mono ?_
            rintro e w9 ⟨rfl, g⟩
            have hA9 := Lib.hid (hA8.out.keep g)
            have hlen := hA9.out.names.len 3
            rw [List.length_map] at hlen
            clear g hA8
            go_wp2_with fail
            go_ret
            exact ⟨by simp, hA9.out.below⟩
  · go_enter Tryz.func6, Tryz.ntmps6
    go_wp2_with fail
    refine (Cw.out _ tb.out nt.out).mono ?_
    rintro e w1 ⟨rfl, g⟩
    have t1 := Lib.hid (tb.out.below g)
    have n1 := Lib.hid (nt.out.below g)
    have b1 := Lib.hid g
    clear g
    go_wp2_with fail
    refine (Cw.out _ t1.out n1.out).mono ?_
    rintro e w2 ⟨rfl, g⟩
    go_wp2_with fail
    go_ret
    exact ⟨rfl, b1.out.trans (g.mono b1.out.size)⟩


set_option maxRecDepth 100000 in
theorem contract (H : Type) (enc : TypeId × Value → H) (W : World) (base : Nat) (args : Array Value) (ds gs : List (DataW H)) (before : List MemPlace)
    (hval : ∀ (j : Nat) t v, Tryz.f6.params[j]? = some t → args[j]? = some v → Value.okWide Tryz.prog W .any base t v)
    (hW : DataW.Whole enc Tryz.prog Tryz.f6.params.toList Rows.nextCachesSpec.vars false W args.toList ds gs before) (hL : laidMetH Tryz.prog Rows.nextCachesRow.laid W) (hS : W.ShapedOpen Tryz.prog) (hz0 : (DataW.weightsEach Tryz.prog (Tryz.f6.params.toList ++ (OpenSpec.ofChange Rows.nextCachesSpec).bare.plain.varTypes Tryz.prog) (ds ++ gs)).all (· ≤ reachBytes) = true) :
    Calls Tryz.prog 6 args W fun e W' => ∃ v, e = .returned v ∧ Rows.nextCachesSpec.post enc Tryz.prog Tryz.f6 false true false false W args v W' := by
  have hW' := hW
  obtain ⟨p, q, hA0, hV, rfl, hfz, hnd⟩ := hW
  have hA : DataW.TrodAll enc Tryz.prog W 0 (fun _ => true) true Tryz.f6.params.toList args.toList ds p := hA0
  have hz : (DataW.weightsEach Tryz.prog (Tryz.f6.params.toList ++ (OpenSpec.ofChange Rows.nextCachesSpec).bare.plain.varTypes Tryz.prog) (ds ++ gs)).all (· ≤ reachBytes) = true := hz0
  clear hz0
  rw [Tryz.params6] at hA hval hz
  obtain ⟨v0, vs0, d0, ds0, p0, q0, hargs, rfl, rfl, h0, r0⟩ := trodAll_cons hA
  obtain ⟨v1, vs1, d1, ds1, p1, q1, rfl, rfl, rfl, h1, r1⟩ := trodAll_cons r0
  obtain ⟨rfl, rfl, rfl⟩ := trodAll_nil r1
  obtain rfl : args = #[v0, v1] := by clear hL hS hW' hval hz; cases args; simp_all
  obtain ⟨rfl, rfl⟩ := trodVars_none hV
  obtain ⟨b0, len0, cap0, rfl⟩ := okWide_slice Tryz.underlying33 (hval 0 33 v0 rfl rfl)
  have k0 := h0
  have lt0 : ∀ x ∈ p0, x.block < W.heap.size := by obtain ⟨m, hm⟩ := k0; exact DataW.trod_lt m _ _ _ hm
  obtain ⟨ss, tx⟩ : ∃ ss, Txt W b0 len0 ss := by
    obtain ⟨fuel, hf⟩ := h0
    exact txt_of hf fun xs sp hd s hs => sized_text hz (j := 0) (t := 33) (e := 9) (sp := sp) rfl (congrArg some hd) Tryz.underlying33 hs
  obtain ⟨a1, rfl, rfl, rfl, w1⟩ := open_int Tryz.underlying3 (hval 1 3 v1 rfl rfl) h1
  clear hA0
  simp only [List.append_nil] at hW'
  refine (walk b0 len0 cap0 ss a1 w1 W (table hL hS) (tables hL hS) tx).mono fun e W' ⟨he, hg⟩ => ?_
  subst he
  exact ⟨_, rfl, _, _, _, [], _, [], hW', trodAll_cons_mk (shut_bool Tryz.underlying4 _) trodAll_mk0, trodAll_cons_mk (Below.trod laidOut (by kernel_rfl) (of_decide_eq_true (by kernel_rfl)) k0 hg lt0) (trodAll_cons_mk (shut_int Tryz.underlying3 w1) trodAll_mk0), rfl, hg.frame _, fun h => by cases h⟩

theorem reads (os : Os) {H : Type} (enc : TypeId × Value → H) : ∃ places, DataW.whole enc Tryz.prog ((laidWorld os).forCall (fun _ _ => 0) ⟨#[], #[.slice none 0 0, .int .i64 0], []⟩).memory Tryz.f6.params.toList Rows.nextCachesSpec.vars false (#[.slice none 0 0, .int .i64 0] : Array Value).toList 8 = some ([.nil, .lit (.int .i64 0)], [], places) :=
  ⟨[], by kernel_rfl⟩

set_option maxRecDepth 100000 in
theorem lifted (os : Os) (started : os.Started) (H : Type) (enc : TypeId × Value → H) (F : Stop.Interp) :
    ReturnsInHanded {} Tryz.checked os 6 .any ((OpenSpec.ofChange Rows.nextCachesSpec).preRow enc Tryz.prog Tryz.f6 Rows.nextCachesRow.domain false Rows.nextCachesRow.laid) (((OpenSpec.ofChange Rows.nextCachesSpec).at F).post enc Tryz.prog Tryz.f6 false true false false) := by
  obtain ⟨places, hx⟩ := reads os enc
  refine returnsInHanded_of_row (C := Tryz.checked) (s := OpenSpec.ofChange Rows.nextCachesSpec) own started (by kernel_rfl) Tryz.func6
    (witness_row_at (enc := enc) (C := Tryz.checked) false (laidWorld os) #[.slice none 0 0, .int .i64 0] (World.laidAll_os _ _ _) (by kernel_rfl) (by kernel_rfl) (by kernel_rfl)
      (OpenSpec.preRow_of_cond 8 hx (by kernel_rfl) (fun k hk => by cases hk) (by kernel_rfl) (laid_met os _))) ?_
  intro W base args ds gs before hval hW _ _ hz hL hS _
  exact contract H enc W base args ds gs before hval hW hL hS hz

theorem said : Rows.NextCachesSaid :=
  OpenClaim.holds_of_cond 6 Tryz.f6 rfl rfl rfl rfl rfl rfl rfl ⟨rfl, rfl, rfl, rfl, rfl⟩ rfl rfl rfl rfl rfl (by kernel_rfl) Tryz.func6 (by kernel_rfl)
    (of_decide_eq_true (by kernel_rfl)) (by unfold Func.isWrapper; first | (rw [if_pos (by decide +kernel)]; kernel_rfl) | (rw [if_neg (by decide +kernel)]; exact ⟨rfl, rfl⟩))
    (fun os started H enc _ F => by rw [OpenClaim.pre_eq_preRow]; exact lifted os started H enc F)

theorem plain (f : FuncId) (fn : Func) (hf : Tryz.pinned.checked.prog.funcNamed "tompion/tompionlaw05.NextCaches" = some f) (hfn : Tryz.pinned.checked.prog.funcs[f]? = some fn) :
    false = Tryz.pinned.checked.prog.looks [] ∧ ∀ (j : Nat) t, fn.params[j]? = some t → Tryz.pinned.checked.prog.wantsStandIn t = false := by
  obtain rfl : f = 6 := Option.some.inj ((show Tryz.prog.funcNamed "tompion/tompionlaw05.NextCaches" = some 6 by kernel_rfl).symm.trans hf) |>.symm
  obtain rfl : fn = Tryz.f6 := (Option.some.inj (Tryz.func6.symm.trans hfn)).symm
  refine ⟨by kernel_rfl, fun j t ht => ?_⟩
  rw [Tryz.params6] at ht
  have hm := Array.mem_of_getElem? ht
  simp at hm
  rcases hm with rfl | rfl
  · exact (show Tryz.prog.wantsStandIn 33 = false by kernel_rfl)
  · exact (show Tryz.prog.wantsStandIn 3 = false by kernel_rfl)

/-- The statement: the card, its tables tied to the program's text. -/
theorem proved : Rows.NextCachesCardSaid :=
  Claim7.holds_tied_plain_at .later [] _ _ _ _ said (fun _ h => by cases h) (by kernel_rfl) (fun _ h => by cases h) nextCaches_row_tie rfl ⟨rfl, rfl⟩ (by kernel_rfl) rfl plain (by kernel_rfl)
#print axioms proved
end Go.Proofs.YtohogchnjeddeaaGreatDoor.nextCaches
