/-
  Layer 11: the bytes of a right chain: config's Put and Print. Condition: Put of a right chain; chains of at most 2^62 seats.
-/
import Derived.Test.YtnagidgffkffhaaGFirst
import Derived.Test.YtnagidgffkffhaaPBuf
import Derived.Test.YtnagidgffkffhaaBack
set_option linter.unusedVariables false
set_option linter.unusedSimpArgs false
namespace Go.Proofs.Ytnagidgffkffhaa.G
open Go.RowKit Cfg Cod
set_option maxRecDepth 100000

theorem buf_below {T e : TypeId} {B b : Nat} {p : Value} {bs : List Value} {w w' : World} (h : Lib.BuilderAt T e B b p bs w) (k : Below w.heap.size w w') : Lib.BuilderAt T e B b p bs w' := by
  have hlt := h.lt
  obtain ⟨hB, v, hb, hown, hne⟩ := h
  refine ⟨hB, v, (k.block b hlt).trans hb, hown.kept (row := none) ⟨k.os, k.tape, k.output, k.size, fun i hi _ => k.block i hi⟩ ?_, hne⟩
  cases v.ownBlock
  · exact Or.inl rfl
  · exact Or.inr (by simp)
theorem isBuf_below {T e : TypeId} {B b : Nat} {bs : List Value} {w w' : World} (h : Lib.IsBuilder T e B b bs w) (k : Below w.heap.size w w') : Lib.IsBuilder T e B b bs w' := h.imp (fun x => buf_below x k) (fun x => buf_below x k)
abbrev Buf (B b : Nat) (s : ByteArray) (w : World) : Prop := Lib.IsBuilder 101 5 B b (Lib.strCells s) w
theorem strCells_app (x y : ByteArray) : Lib.strCells x ++ Lib.strCells y = Lib.strCells (x ++ y) := by
  unfold Lib.strCells
  rw [ByteArray.data_append, Array.toList_append, List.map_append]
/-- What is no builder, and no bytes, stays. -/
def Keeps (w w' : World) : Prop := ∀ (k : Nat) (cs : Array Value) (T : TypeId), T ≠ 101 → T ≠ 5 → Blk w k cs T → Blk w' k cs T
theorem Keeps.below {w w' : World} (h : Below w.heap.size w w') : Keeps w w' := fun k cs T _ _ z => z.below h
theorem Keeps.trans {a b c : World} (h : Keeps a b) (h' : Keeps b c) : Keeps a c := fun k cs T e1 e2 z => h' k cs T e1 e2 (h k cs T e1 e2 z)
theorem Keeps.set {w : World} {b i : Nat} {u : Value} {c0 : Array Value} (h : w.heap[b]? = some (.cells c0 101 (0, 0))) : Keeps w (w.setCell ⟨b, i, none⟩ u) := fun k cs T e1 _ z => by
  have hne : k ≠ b := fun e => by
    subst e
    rw [show w.heap[k]? = _ from z] at h
    injection h with h
    injection h with _ h
    exact e1 h
  exact (heap_setCell_other w ⟨b, i, none⟩ k u hne).trans z
theorem Keeps.grown {w w' : World} {B n : Nat} {v : Value} {bs : List Value} (o : w.ownsRow B 5 1 v n bs) (g : w.grownBy w' v.ownBlock) : Keeps w w' := fun k cs T _ e2 z => by
  refine (g.block k z.lt fun e => ?_).trans z
  rcases o.2 with ⟨h1, _⟩ | ⟨g', c, cur, h1, _, h3, _⟩
  · rw [h1] at e; cases e
  · rw [h1] at e
    obtain rfl : k = g' := by injection e
    rw [show w.heap[k]? = _ from z] at h3
    injection h3 with h3
    injection h3 with _ h3
    exact e2 h3
theorem checkK_any (B b : Nat) (bs : List Value) (w : World) (h : Lib.IsBuilder 101 5 B b bs w) :
    Calls Try.prog 80 #[.pointer (some ⟨b, 0, none⟩)] w fun e w' => e = .returned (.tuple #[]) ∧ Lib.BuilderAt 101 5 B b (.pointer (some ⟨b, 0, none⟩)) bs w' ∧ Below B w w' ∧ Keeps w w' := by
  rcases h with h | h
  · refine (check_fresh b w h.cell0 h.shape h.frozen0).mono ?_
    rintro e w' ⟨rfl, rfl⟩
    have hk : Keeps w (w.setCell ⟨b, 0, none⟩ (.pointer (some ⟨b, 0, none⟩))) := by obtain ⟨_, _, hb, _⟩ := h; exact Keeps.set hb
    exact ⟨rfl, h.used _, (Below.refl B w).setCell (p := ⟨b, 0, none⟩) h.1 _, hk⟩
  · refine (check_used b w h.cell0).mono ?_
    rintro e w' ⟨rfl, rfl⟩
    exact ⟨rfl, h, Below.refl B _, fun _ _ _ _ _ z => z⟩
set_option maxHeartbeats 2000000 in
theorem writeK_any (B b : Nat) (bs : List Value) (s : ByteArray) (w : World) (h : Lib.IsBuilder 101 5 B b bs w) (hlen : bs.length + s.size ≤ 140737488355328) (hBw : B ≤ w.heap.size) :
    Calls Try.prog 63 #[.pointer (some ⟨b, 0, none⟩), .string s] w fun e w' =>
      e = .returned (.tuple #[.int .i64 s.size, .nilIface]) ∧ Lib.BuilderAt 101 5 B b (.pointer (some ⟨b, 0, none⟩)) (bs ++ Lib.strCells s) w' ∧ Below B w w' ∧ Keeps w w' := by
  obtain ⟨i0, hi, hz0, hz1, hz2⟩ := info_parts infoBuf
  go_enter Try.func63, Try.ntmps63
  go_wp2_with (go_at_call 80; refine (checkK_any B b bs _ h).mono ?_)
  rintro e w1 ⟨rfl, h1, hb1, hk1⟩
  obtain ⟨hB, v, hbk, hown, hne⟩ := h1
  have c0 : w1.cell? ⟨b, 0, none⟩ = some (.pointer (some ⟨b, 0, none⟩)) := by rw [Lib.cell_of_heap hbk]; rfl
  have c1 : w1.cell? ⟨b, 1, none⟩ = some v := by rw [Lib.cell_of_heap hbk]; rfl
  replace hk1 := Lib.hid hk1
  go_wp2_with (at_builtin; refine Lib.wpList_append_own_string _ rfl _ _ 99 9 rfl B 5 i0 Try.underlying99 Try.underlying9 hi hz0 hz1 hz2 _ _ _ rfl hown s rfl ?c3 ?c4 ?c5 ?_)
  case c3 => unfold maxLen; omega
  case c4 => omega
  case c5 => have := hb1.size; omega
  intro v' w2 hown' hgrow _
  have hlt : b < w1.heap.size := by
    rcases Nat.lt_or_ge b w1.heap.size with h' | h'
    · exact h'
    · simp [Array.getElem?_eq_none h'] at hbk
  have hb2 : w2.heap[b]? = some (.cells #[.pointer (some ⟨b, 0, none⟩), v] 101 (0, 0)) := by
    rw [hgrow.block b hlt (fun e => hne e.symm)]
    exact hbk
  have hk2 := Lib.hid ((hk1.out.trans (Keeps.grown hown hgrow)).trans (Keeps.set (i := 1) (u := v') hb2))
  have d0 : w2.cell? ⟨b, 0, none⟩ = some (.pointer (some ⟨b, 0, none⟩)) := by rw [Lib.cell_of_heap hb2]; rfl
  have d1 : w2.cell? ⟨b, 1, none⟩ = some v := by rw [Lib.cell_of_heap hb2]; rfl
  have f1 : w2.frozen? ⟨b, 1, none⟩ = false := Lib.frozen_of_heap hb2 1
  obtain ⟨ao, n', cap, rfl⟩ : ∃ ao n' cap, v' = .slice ao n' cap := by
    rcases hown'.2 with ⟨hv, _⟩ | ⟨g, cap, cur, hv, _⟩
    · exact ⟨_, _, _, hv⟩
    · exact ⟨_, _, _, hv⟩
  go_wp2
  go_ret2
  refine ⟨rfl, ?_, ?_, hk2.out⟩
  · exact Lib.BuilderAt.put (T := 101) (e := 5) hB hb2 (bs' := bs ++ Lib.strCells s) (by simpa [Lib.strCells_length] using hown') (by decide)
  · exact (hb1.grown hgrow (by have := hb1.size; omega) (fun k hk => (hown.lt k hk).1)).setCell (p := ⟨b, 1, none⟩) hB _
theorem bufWrite (B b : Nat) (x s : ByteArray) (w : World) (h : Buf B b x w) (hlen : x.size + s.size ≤ 140737488355328) (hBw : B ≤ w.heap.size) :
    Calls Try.prog 63 #[.pointer (some ⟨b, 0, none⟩), .string s] w fun e w' => e = .returned (.tuple #[.int .i64 s.size, .nilIface]) ∧ Buf B b (x ++ s) w' ∧ Below B w w' ∧ Keeps w w' := by
  refine (writeK_any B b _ s w h (by rw [Lib.strCells_length]; exact hlen) hBw).mono ?_
  rintro e w' ⟨he, h1, k⟩
  refine ⟨he, Or.inr ?_, k⟩
  rw [strCells_app] at h1
  exact h1
theorem bufString (B b : Nat) (x : ByteArray) (w : World) (h : Buf B b x w) (hBw : B ≤ w.heap.size) :
    Calls Try.prog 67 #[.pointer (some ⟨b, 0, none⟩)] w fun e w' => e = .returned (.string x) ∧ Below B w w' :=
  (Try.Builder_String_any B b x.data.toList w h hBw).mono fun e w' ⟨he, k⟩ => ⟨he, k⟩
def flagI (s : Bool) : Int := if s = true then 1 else 0
def flagB (s : Bool) : ByteArray := if s = true then ⟨#[1]⟩ else ⟨#[0]⟩
theorem flagB_size (s : Bool) : (flagB s).size = 1 := by cases s <;> rfl
set_option maxHeartbeats 2000000 in
theorem writeFlag_any (B b : Nat) (bs : List Value) (f : Bool) (w : World) (h : Lib.IsBuilder 101 5 B b bs w) (hlen : bs.length + 1 ≤ 140737488355328) (hBw : B ≤ w.heap.size) :
    Calls Try.prog 65 #[.pointer (some ⟨b, 0, none⟩), .int .u8 (flagI f)] w fun e w' =>
      e = .returned .nilIface ∧ Lib.BuilderAt 101 5 B b (.pointer (some ⟨b, 0, none⟩)) (bs ++ Lib.strCells (flagB f)) w' ∧ Below B w w' ∧ Keeps w w' := by
  obtain ⟨i0, hi, hz0, hz1, hz2⟩ := info_parts infoBuf
  obtain ⟨c, hc⟩ : ∃ c : Int, flagI f = c := ⟨_, rfl⟩
  have hcf : Hid (Lib.strCells (flagB f) = [.int .u8 c]) := by rw [← hc]; cases f <;> rfl
  rw [hc, hcf.out]
  clear hc hcf
  go_enter Try.func65, Try.ntmps65
  go_wp2_with (go_at_call 80; refine (checkK_any B b bs _ h).mono ?_)
  rintro e w1 ⟨rfl, h1, hb1, hk1⟩
  obtain ⟨hB, v, hbk, hown, hne⟩ := h1
  have hlt : b < w1.heap.size := (Array.getElem?_eq_some_iff.1 hbk).1
  have c1 : w1.cell? ⟨b, 1, none⟩ = some v := by rw [Lib.cell_of_heap hbk]; rfl
  have ba := (Below.refl w1.heap.size w1).alloc (Nat.le_refl _) (.cells #[.int .u8 c] 5)
  have hown2 : (w1.alloc (.cells #[.int .u8 c] 5)).ownsRow B 5 1 v bs.length bs := hown.alloc _
  have hBs : B ≤ (w1.alloc (.cells #[.int .u8 c] 5)).heap.size := by have := hb1.size; have := ba.size; omega
  have hbk2 : (w1.alloc (.cells #[.int .u8 c] 5)).heap[b]? = some (.cells #[.pointer (some ⟨b, 0, none⟩), v] 101 (0, 0)) := (ba.block b hlt).trans hbk
  have hnew : Hid (∀ (j : Nat) (u : Value), [Value.int .u8 c][j]? = some u → (w1.alloc (.cells #[.int .u8 c] 5)).cell? ((⟨w1.heap.size, 0, none⟩ : Addr).add j) = some u) := fun j u hu => by
    rw [Addr.add_lit, Nat.zero_add]
    exact ((Blk.new w1 #[.int .u8 c] 5).cell j).trans (by simpa using hu)
  have b2 := Lib.hid (hb1.alloc (by have := hb1.size; omega) (.cells #[.int .u8 c] 5))
  replace hbk := Lib.hid hbk
  replace hown := Lib.hid hown
  replace hown2 := Lib.hid hown2
  replace hbk2 := Lib.hid hbk2
  replace hBs := Lib.hid hBs
  go_wp2_with (at_builtin; refine wpList_append_own_at _ rfl _ _ 99 rfl B 5 i0 _ 1 1 Try.underlying99 hi hz0 hz1 hz2 rfl (by decide) _ _ _ rfl hown2.out ⟨w1.heap.size, 0, none⟩ 1 1 [.int .u8 c] rfl rfl hnew.out (fun u hu => by simp at hu; subst hu; rfl) (by unfold maxLen; omega) (by omega) hBs.out ?_)
  intro v' w2 hown' hgrow _ _
  have hb2 : w2.heap[b]? = some (.cells #[.pointer (some ⟨b, 0, none⟩), v] 101 (0, 0)) := by
    rw [hgrow.block b (by have := ba.size; omega) (fun e => hne e.symm)]
    exact hbk2.out
  have d0 : w2.cell? ⟨b, 0, none⟩ = some (.pointer (some ⟨b, 0, none⟩)) := by rw [Lib.cell_of_heap hb2]; rfl
  have d1 : w2.cell? ⟨b, 1, none⟩ = some v := by rw [Lib.cell_of_heap hb2]; rfl
  have f1 : w2.frozen? ⟨b, 1, none⟩ = false := Lib.frozen_of_heap hb2 1
  obtain ⟨ao, n', cap, rfl⟩ : ∃ ao n' cap, v' = .slice ao n' cap := by
    rcases hown'.2 with ⟨hv, _⟩ | ⟨g, cap, cur, hv, _⟩
    · exact ⟨_, _, _, hv⟩
    · exact ⟨_, _, _, hv⟩
  have b3 := Lib.hid (b2.out.grown hgrow hBs.out (fun k hk => (hown.out.lt k hk).1))
  have hk2 := Lib.hid (((hk1.trans (Keeps.below ba)).trans (Keeps.grown hown2.out hgrow)).trans (Keeps.set (i := 1) (u := .slice ao n' cap) hb2))
  replace hk1 := Lib.hid hk1
  have hfin := Lib.hid (Lib.BuilderAt.put (T := 101) (e := 5) hB hb2 (bs' := bs ++ [.int .u8 c]) (by simpa using hown') (by decide))
  clear hown' hgrow hnew hb2 hbk2 hbk hown hown2 c1
  go_wp2_with fail
  go_ret
  exact ⟨rfl, hfin.out, b3.out.setCell (p := ⟨b, 1, none⟩) hB _, hk2.out⟩

/-! ### A chain's bytes -/
def numsU : List Int → ByteArray
  | [] => ⟨#[]⟩
  | x :: l => encB x.toNat ++ numsU l
def seatB (s : StN) : ByteArray := encB s.m.node.toNat ++ encB s.m.life.toNat ++ flagB s.syn
def seatsB : List StN → ByteArray
  | [] => ⟨#[]⟩
  | s :: l => seatB s ++ seatsB l
def chainB (c : CfN) : ByteArray := encB c.epoch.toNat ++ encB c.l.length ++ seatsB c.l
theorem app_none (x : ByteArray) : (⟨#[]⟩ : ByteArray) ++ x = x := text_inj (by rw [bytes_append]; rfl)
theorem app_none' (x : ByteArray) : x ++ (⟨#[]⟩ : ByteArray) = x := text_inj (by rw [bytes_append]; exact List.append_nil _)
theorem numsU_append (l m : List Int) : numsU (l ++ m) = numsU l ++ numsU m := by
  induction l with
  | nil => exact (app_none _).symm
  | cons x l ih => show encB x.toNat ++ numsU (l ++ m) = encB x.toNat ++ numsU l ++ numsU m; rw [ih, app_assoc]
theorem numsU_one (x : Int) : numsU [x] = encB x.toNat := app_none' _
theorem numsU_two (x y : Int) : numsU [x, y] = encB x.toNat ++ encB y.toNat := by show encB x.toNat ++ (encB y.toNat ++ ⟨#[]⟩) = _; rw [app_none']
theorem seatsB_append (l m : List StN) : seatsB (l ++ m) = seatsB l ++ seatsB m := by
  induction l with
  | nil => exact (app_none _).symm
  | cons x l ih => show seatB x ++ seatsB (l ++ m) = seatB x ++ seatsB l ++ seatsB m; rw [ih, app_assoc]
theorem seatsB_one (x : StN) : seatsB [x] = seatB x := app_none' _
theorem encU_size {n : Nat} (h : n < 18446744073709551616) : (encB n).size ≤ 10 := by rw [encB_size]; exact enc_ten h
theorem numsU_size {l : List Int} (h : ∀ x ∈ l, 0 ≤ x ∧ x < 9223372036854775808) : (numsU l).size ≤ 10 * l.length := by
  induction l with
  | nil => exact Nat.le_refl 0
  | cons x l ih =>
    have h1 := encU_size (n := x.toNat) (by have := h x (by simp); omega)
    have h2 := ih (fun y hy => h y (by simp [hy]))
    show (encB x.toNat ++ numsU l).size ≤ _
    rw [size_append', List.length_cons]; omega
/-- A row of numbers in memory. -/
structure Row (w : World) (g : Nat) (l : List Int) : Prop where
  lt : g < w.heap.size
  cell : ∀ j x, l[j]? = some x → w.cell? ⟨g, j, none⟩ = some (.int .i64 x)
theorem Row.below {w w' : World} {g : Nat} {l : List Int} (h : Row w g l) (k : Below w.heap.size w w') : Row w' g l :=
  ⟨Nat.lt_of_lt_of_le h.lt k.size, fun j x hj => (World.cell?_of_block (k.block g h.lt)).trans (h.cell j x hj)⟩
theorem Row.at {w : World} {g : Nat} {l : List Int} (h : Row w g l) (j : Nat) (hj : j < l.length) : w.cell? ⟨g, j, none⟩ = some (.int .i64 l[j]) := h.cell j _ (by simp [hj])
theorem Row.two (w : World) (x y : Int) (T : TypeId) : Row (w.alloc (.cells #[.int .i64 x, .int .i64 y] T)) w.heap.size [x, y] := by
  refine ⟨by simp, fun j u hj => ?_⟩
  match j, hj with
  | 0, hj => simp at hj; subst hj; simp
  | 1, hj => simp at hj; subst hj; simp
  | j + 2, hj => simp at hj
set_option maxHeartbeats 1000000 in
theorem numbers_any (g : Nat) (l : List Int) (w : World) (hr : Row w g l) (hl : ∀ x ∈ l, 0 ≤ x ∧ x < 9223372036854775808) (hn : l.length ≤ 1000) :
    Calls Try.prog 64 #[.slice (some ⟨g, 0, none⟩) l.length l.length] w fun e w' => e = .returned (.string (numsU l)) ∧ Below w.heap.size w w' := by
  replace hl := Lib.hid hl
  replace hr := Lib.hid hr
  go_enter Try.func64, Try.ntmps64
  go_wp2_with fail
  have hb0 := Lib.hid (Lib.fresh_isBuilder 101 5 w)
  go_loopw [8] (fun i wr => ∃ k : Nat, k ≤ l.length ∧ i = .int .i64 k ∧ Hid (Buf w.heap.size w.heap.size (numsU (l.take k)) wr) ∧ Hid (Below w.heap.size w wr)) (fun i _ => l.length - (intOf i).toNat)
  case atStart => exact ⟨0, Nat.zero_le _, rfl, hb0, (Below.refl _ _).alloc (Nat.le_refl _) _⟩
  case round =>
    obtain ⟨k, hk, rfl, hb, kb⟩ := hrel
    clear hb0
    by_cases hlt : k < l.length
    · have hcell := (hr.out.below kb.out).at k hlt
      have hx := hl.out l[k] (List.getElem_mem hlt)
      have htk : Hid (numsU (l.take (k + 1)) = numsU (l.take k) ++ encB l[k].toNat) := by
        show _ = _
        rw [← numsU_one, ← numsU_append, List.take_succ_eq_append_getElem hlt]
      have hsz : Hid ((numsU (l.take k)).size ≤ 10000 ∧ (encB l[k].toNat).size ≤ 10) := by
        have h1 := numsU_size (l := l.take k) (fun x hx => hl.out x (List.mem_of_mem_take hx))
        have h2 := encU_size (n := l[k].toNat) (by omega)
        rw [List.length_take] at h1
        exact ⟨by omega, h2⟩
      have hlt2 : (k : Int) < l.length := by omega
      obtain ⟨x, hxx⟩ : ∃ x : Nat, l[k] = (x : Int) := ⟨l[k].toNat, by omega⟩
      rw [hxx] at hcell htk hsz hx
      rw [Int.toNat_natCast] at htk hsz
      have hwu : IntKind.u64.wrap (x : Int) = x := by rw [IntKind.wrap_u64]; omega
      have hu := Lib.hid (fun W => uint_any x W (by omega))
      replace hxx := Lib.hid hxx
      replace hx := Lib.hid hx
      go_wp2_with fail
      refine (hu.out _).mono ?_
      rintro e w1 ⟨rfl, b1⟩
      have hb1 := Lib.hid (isBuf_below hb.out b1)
      have kb1 := Lib.hid (kb.out.trans (b1.mono kb.out.size))
      clear hcell b1 hb kb
      go_wp2_with fail
      refine (bufWrite w.heap.size w.heap.size _ _ _ hb1.out (by have := hsz.out; omega) kb1.out.size).mono ?_
      rintro e w2 ⟨rfl, hb2, b2, -⟩
      rw [← htk.out] at hb2
      replace hb2 := Lib.hid hb2
      replace kb1 := Lib.hid (kb1.out.trans b2)
      clear hb1 b2
      go_wp2_with fail
      refine ⟨⟨k + 1, hlt, by go_num, hb2, kb1⟩, ?_⟩
      simp [intOf]; omega
    · obtain rfl : k = l.length := by omega
      have hlt2 : ¬ (l.length : Int) < l.length := by omega
      rw [List.take_length] at hb
      go_wp2_with fail
      refine (bufString w.heap.size w.heap.size _ _ hb.out kb.out.size).mono ?_
      rintro e w2 ⟨rfl, b2⟩
      replace kb := Lib.hid (kb.out.trans b2)
      go_wp2_with fail
      go_ret
      exact ⟨rfl, kb.out⟩
set_option maxHeartbeats 1000000 in
theorem flag_any (s : StN) (w : World) : Calls Try.prog 66 #[stV s] w fun e w' => e = .returned (.int .u8 (flagI s.syn)) ∧ Below w.heap.size w w' := by
  obtain ⟨⟨s0, s1⟩, s2⟩ := s
  cases s2
  all_goals
    go_enter Try.func66, Try.ntmps66
    go_wp2_with fail
    go_ret
    exact ⟨rfl, (Below.refl _ _).alloc (Nat.le_refl _) _⟩

theorem bufFlag (B b : Nat) (x : ByteArray) (f : Bool) (w : World) (h : Buf B b x w) (hlen : x.size + 1 ≤ 140737488355328) (hBw : B ≤ w.heap.size) :
    Calls Try.prog 65 #[.pointer (some ⟨b, 0, none⟩), .int .u8 (flagI f)] w fun e w' => e = .returned .nilIface ∧ Buf B b (x ++ flagB f) w' ∧ Below B w w' ∧ Keeps w w' := by
  refine (writeFlag_any B b _ f w h (by rw [Lib.strCells_length]; exact hlen) hBw).mono ?_
  rintro e w' ⟨he, h1, k⟩
  refine ⟨he, Or.inr ?_, k⟩
  rw [strCells_app] at h1
  exact h1
theorem seatsB_size {l : List StN} (h : ∀ s ∈ l, mayN s.m = true) : (seatsB l).size ≤ 21 * l.length := by
  induction l with
  | nil => exact Nat.le_refl 0
  | cons s l ih =>
    have h0 := h s (by simp)
    unfold mayN at h0
    simp only [Bool.and_eq_true, decide_eq_true_eq] at h0
    have h1 := encU_size (n := s.m.node.toNat) (by omega)
    have h3 := encU_size (n := s.m.life.toNat) (by omega)
    have h2 := ih (fun y hy => h y (by simp [hy]))
    show (seatB s ++ seatsB l).size ≤ _
    unfold seatB
    rw [size_append', size_append', size_append', flagB_size, List.length_cons]; omega
/-- The chain's box, the builder, and all below. -/
structure Bp (w : World) (e0 : Int) (p : Option Addr) (n cap : Nat) (S : ByteArray) (w3 : World) : Prop where
  k : Blk w3 w.heap.size #[.int .i64 e0, .slice p n cap] 24
  o : Buf (w.heap.size + 1) (w.heap.size + 1) S w3
  s : w.heap.size + 1 ≤ w3.heap.size
  b : Below w.heap.size w w3
theorem Bp.below {w w3 w4 : World} {e0 : Int} {p : Option Addr} {n cap : Nat} {S : ByteArray} (h : Bp w e0 p n cap S w3) (k : Below w3.heap.size w3 w4) : Bp w e0 p n cap S w4 := ⟨h.k.below k, isBuf_below h.o k, Nat.le_trans h.s k.size, h.b.trans (k.mono h.b.size)⟩
theorem Bp.wrote {w w3 w4 : World} {e0 : Int} {p : Option Addr} {n cap : Nat} {S S' : ByteArray} (h : Bp w e0 p n cap S w3) (o : Buf (w.heap.size + 1) (w.heap.size + 1) S' w4) (k : Below (w.heap.size + 1) w3 w4) (q : Keeps w3 w4) : Bp w e0 p n cap S' w4 :=
  ⟨q _ _ _ (by decide) (by decide) h.k, o, Nat.le_trans h.s k.size, h.b.trans (k.mono (Nat.le_succ _))⟩
set_option maxHeartbeats 4000000 in
theorem put_any (c : CfN) (p : Option Addr) (cap : Nat) (w : World) (t : Chn w p c.l) (hr : RightP c) :
    Calls Try.prog 41 #[cfV c p cap] w fun e w' => e = .returned (.string (chainB c)) ∧ Below w.heap.size w w' := by
  obtain ⟨e0, l⟩ := c
  replace t : Chn w p l := t
  have hn8 : l.length ≤ 8 := hr.n2
  have hlI : (l.length : Int) ≤ 8 := by omega
  have he1 : 1 ≤ e0 := hr.e1
  have he2 : e0 ≤ 1099511627776 := hr.e2
  have hmay : Hid (∀ s ∈ l, mayN s.m = true) := hr.good.may
  have hH : Hid (numsU [e0, (l.length : Int)] = encB e0.toNat ++ encB l.length) := by show _ = _; rw [numsU_two, Int.toNat_natCast]
  have hC : Hid (chainB ⟨e0, l⟩ = numsU [e0, (l.length : Int)] ++ seatsB l) := by show _ = _; rw [hH.out]; rfl
  have hHs : Hid ((numsU [e0, (l.length : Int)]).size ≤ 20) := numsU_size (l := [e0, (l.length : Int)]) (by intro x hx; simp at hx; rcases hx with rfl | rfl <;> omega)
  have hnum := Lib.hid (fun g W hrow => numbers_any g [e0, (l.length : Int)] W hrow (by intro x hx; simp at hx; rcases hx with rfl | rfl <;> omega) (by simp))
  rw [hC.out]
  clear hH
  generalize numsU [e0, (l.length : Int)] = H at *
  replace hr := Lib.hid hr
  have x : Hid (Bp w e0 p l.length cap ⟨#[]⟩ ((w.alloc (.cells #[.int .i64 e0, .slice p l.length cap] 24)).alloc (.cells #[.pointer none, .slice none 0 0] 101))) := by
    have ba := (Below.refl w.heap.size w).alloc (Nat.le_refl _) (.cells #[.int .i64 e0, .slice p l.length cap] 24)
    have h1 := Lib.fresh_isBuilder 101 5 (w.alloc (.cells #[.int .i64 e0, .slice p l.length cap] 24))
    rw [show (w.alloc (.cells #[.int .i64 e0, .slice p l.length cap] 24)).heap.size = w.heap.size + 1 by simp] at h1
    exact ⟨(Blk.new w _ _).below ((Below.refl _ _).alloc (Nat.le_refl _) _), h1, by simp, ba.alloc ba.size _⟩
  replace t := Lib.hid t
  go_enter Try.func41, Try.ntmps41
  go_upto_region 2 with fail
  generalize ((w.alloc _).alloc _) = w2 at *
  have y0 := x.out.k.cell 0
  have y1 := x.out.k.cell 1
  have ba := (Below.refl w2.heap.size w2).alloc (Nat.le_refl _) (.cells #[.int .i64 e0, .int .i64 (l.length : Int)] 3)
  have x2 := Lib.hid (x.out.below ba)
  have hn2 := Lib.hid (hnum.out _ _ (Row.two w2 e0 (l.length : Int) 3))
  clear ba x
  go_wp2_with fail
  refine hn2.out.mono ?_
  rintro e w3 ⟨rfl, b3⟩
  have x3 := Lib.hid (x2.out.below b3)
  clear x2 y0 y1 b3 hn2
  go_wp2_with fail
  refine (bufWrite (w.heap.size + 1) (w.heap.size + 1) ⟨#[]⟩ H _ x3.out.o (by have := hHs.out; have : (⟨#[]⟩ : ByteArray).size = 0 := rfl; omega) x3.out.s).mono ?_
  rintro e w4 ⟨rfl, hb4, k4, q4⟩
  have x4 := Lib.hid (x3.out.wrote hb4 k4 q4)
  rw [app_none] at x4
  clear x3 hb4 k4 q4
  have y1 := x4.out.k.cell 1
  go_wp2_with fail
  clear y1
  go_loopw [17] (fun i wr => ∃ k : Nat, i = .int .i64 k ∧ (k : Int) ≤ l.length ∧ Hid (Bp w e0 p l.length cap (H ++ seatsB (l.take k)) wr)) (fun i _ => ((l.length : Int) - intOf i).toNat)
  case atStart => exact ⟨0, rfl, by omega, by rw [List.take_zero, show seatsB [] = ⟨#[]⟩ from rfl, app_none']; exact x4⟩
  case round =>
    obtain ⟨k, rfl, hk, x5⟩ := hrel
    clear x4
    by_cases hlt : (k : Int) < l.length
    · have hkl : k < l.length := by omega
      obtain ⟨g, off, rfl, c0, c1, c2⟩ := (t.out.below x5.out.b) k hkl
      have hms := hmay.out l[k] (List.getElem_mem hkl)
      have htk : Hid (H ++ seatsB (l.take (k + 1)) = H ++ seatsB (l.take k) ++ numsU [l[k].m.node, l[k].m.life] ++ flagB l[k].syn) := by
        show _ = _
        rw [List.take_succ_eq_append_getElem hkl, seatsB_append, seatsB_one, numsU_two]
        unfold seatB
        simp only [app_assoc]
      have hsz1 : Hid ((H ++ seatsB (l.take k)).size ≤ 1000) := by
        have h1 := seatsB_size (l := l.take k) fun s hs => hmay.out s (List.mem_of_mem_take hs)
        rw [List.length_take] at h1
        have := hHs.out
        show _ ≤ _
        rw [size_append']; omega
      generalize H ++ seatsB (l.take k) = S at *
      generalize l[k] = s at *
      unfold mayN at hms
      simp only [Bool.and_eq_true, decide_eq_true_eq] at hms
      have hfl := Lib.hid (flag_any s)
      obtain ⟨⟨s0, s1⟩, s2⟩ := s
      simp only at c0 c1 c2 hms htk
      have hnm := Lib.hid (fun g W hrow => numbers_any g [s0, s1] W hrow (by intro x hx; simp at hx; rcases hx with rfl | rfl <;> omega) (by simp))
      have hsz2 : Hid ((numsU [s0, s1]).size ≤ 20) := numsU_size (l := [s0, s1]) (by intro x hx; simp at hx; rcases hx with rfl | rfl <;> omega)
      generalize numsU [s0, s1] = S2 at *
      replace hms := Lib.hid hms
      have ba := (Below.refl wr.heap.size wr).alloc (Nat.le_refl _) (.cells #[.int .i64 s0, .int .i64 s1, .bool s2] 70)
      have x6 := Lib.hid (x5.out.below ba)
      have kb := Lib.hid (Blk.new wr #[.int .i64 s0, .int .i64 s1, .bool s2] 70)
      clear ba x5
      go_upto_region 6 with fail
      clear c0 c1 c2
      generalize wr.alloc _ = w6 at *
      generalize wr.heap.size = q at *
      have z0 := kb.out.cell 0
      have z1 := kb.out.cell 1
      have ba := (Below.refl w6.heap.size w6).alloc (Nat.le_refl _) (.cells #[.int .i64 s0, .int .i64 s1] 3)
      have x7 := Lib.hid (x6.out.below ba)
      have kb7 := Lib.hid (kb.out.below ba)
      have hn7 := Lib.hid (hnm.out _ _ (Row.two w6 s0 s1 3))
      clear ba x6 kb
      go_wp2_with fail
      refine hn7.out.mono ?_
      rintro e w8 ⟨rfl, b8⟩
      have x8 := Lib.hid (x7.out.below b8)
      have kb8 := Lib.hid (kb7.out.below b8)
      clear x7 kb7 b8 hn7 z0 z1
      go_wp2_with fail
      refine (bufWrite (w.heap.size + 1) (w.heap.size + 1) S S2 _ x8.out.o (by have := hsz1.out; have := hsz2.out; omega) x8.out.s).mono ?_
      rintro e w9 ⟨rfl, hb9, k9, q9⟩
      have x9 := Lib.hid (x8.out.wrote hb9 k9 q9)
      have kb9 := Lib.hid (q9 _ _ _ (by decide) (by decide) kb8.out)
      clear x8 hb9 k9 q9 kb8
      have z0 := kb9.out.cell 0
      have z1 := kb9.out.cell 1
      have z2 := kb9.out.cell 2
      go_wp2_with fail
      refine (hfl.out w9).mono ?_
      rintro e wa ⟨rfl, ba⟩
      have xa := Lib.hid (x9.out.below ba)
      clear x9 ba kb9 z0 z1 z2
      have hszz : (S ++ S2).size + 1 ≤ 140737488355328 := by have := hsz1.out; have := hsz2.out; rw [size_append']; omega
      have hbf := Lib.hid (bufFlag (w.heap.size + 1) (w.heap.size + 1) (S ++ S2) s2 wa xa.out.o hszz xa.out.s)
      replace hszz := Lib.hid hszz
      generalize flagI s2 = fi at *
      go_wp2_with fail
      refine hbf.out.mono ?_
      rintro e wb ⟨rfl, hbb, kk, qq⟩
      have xb := Lib.hid (xa.out.wrote hbb kk qq)
      rw [← htk.out] at xb
      clear xa hbb kk qq hbf
      go_wp2_with fail
      exact ⟨⟨k + 1, by go_num, by omega, xb⟩, by simp [intOf]; omega⟩
    · obtain rfl : k = l.length := by omega
      rw [List.take_length] at x5
      go_wp2_with fail
      refine (bufString (w.heap.size + 1) (w.heap.size + 1) _ _ x5.out.o x5.out.s).mono ?_
      rintro e w6 ⟨rfl, b6⟩
      go_wp2_with fail
      go_ret
      exact ⟨rfl, x5.out.b.trans (b6.mono (Nat.le_succ _))⟩
def printN (c : CfN) : ByteArray := if rightN c = true then chainB c else ⟨#[]⟩
def printE (c : CfN) : Int := if rightN c = true then 0 else 1
set_option maxHeartbeats 4000000 in
theorem print_any (c : CfN) (p : Option Addr) (cap : Nat) (w : World) (t : Chn w p c.l) (hcap : c.l.length ≤ cap) (hl : c.l.length ≤ 4611686018427387904) :
    Calls Try.prog 39 #[cfV c p cap] w fun e w' => e = .returned (.tuple #[.string (printN c), .int .i64 (printE c)]) ∧ Below w.heap.size w w' := by
  have x := Lib.hid (Bx1.new w c.epoch p c.l.length cap)
  have hR := Lib.hid (right_any c p cap _ (t.below x.out.b) hcap hl)
  have t2 := Lib.hid (t.below x.out.b)
  have hri : Hid (rightN c = true → RightP c) := fun h => right_iff.1 h
  have hp := Lib.hid (fun W tW => put_any c p cap W tW)
  have hn : Hid (printN c = if rightN c = true then chainB c else ⟨#[]⟩) := rfl
  have he : Hid (printE c = if rightN c = true then 0 else 1) := rfl
  generalize rightN c = r at *
  generalize printN c = P at *
  generalize printE c = E at *
  obtain ⟨e0, l⟩ := c
  have y0 := x.out.c0
  have y1 := x.out.c1
  try dsimp only at y0 y1
  replace t := Lib.hid t
  replace hl := Lib.hid hl
  replace hcap := Lib.hid hcap
  go_enter Try.func39, Try.ntmps39
  go_wp2_with fail
  refine hR.out.mono ?_
  rintro e w2 ⟨rfl, b2⟩
  have x2 := Lib.hid (x.out.below b2)
  have t3 := Lib.hid (t2.out.below b2)
  try dsimp only at x2 t3
  clear b2 x t2 y0 y1 hR
  cases r with
  | false =>
    go_wp2_with fail
    go_ret2
    exact ⟨by rw [hn.out, he.out]; rfl, x2.out.b⟩
  | true =>
    have y0 := x2.out.c0
    have y1 := x2.out.c1
    have hp2 := Lib.hid (hp.out w2 t3.out (hri.out (by first | rfl | trivial)))
    go_wp2_with fail
    refine hp2.out.mono ?_
    rintro e w4 ⟨rfl, b4⟩
    go_wp2_with fail
    go_ret2
    exact ⟨by rw [hn.out, he.out]; rfl, x2.out.b.trans (b4.mono x2.out.b.size)⟩
end Go.Proofs.Ytnagidgffkffhaa.G
