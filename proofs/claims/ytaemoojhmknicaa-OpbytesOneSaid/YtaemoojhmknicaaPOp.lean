/-
  Layer 10: an operation as plain numbers and a text; its bytes; what a reader takes; what is printed is read as it was, and what was read is what is printed. No program, no condition.
-/
import Derived.Test.YtaemoojhmknicaaBack
set_option linter.unusedVariables false
namespace Go.Proofs.Ytaemoojhmknicaa
open Go.RowKit Cod

def i64 (a : Int) : Prop := -9223372036854775808 ≤ a ∧ a ≤ 9223372036854775807
structure OpN where
  kind : Int
  client : Int
  req : Int
  id : Int
  gen : Int
  occ : Int
  due : Int
  stamp : Int
  epoch : Int
  cron : ByteArray
abbrev opC (o : OpN) : Array Value := #[.int .i64 o.kind, .int .i64 o.client, .int .i64 o.req, .int .i64 o.id, .int .i64 o.gen, .int .i64 o.occ, .int .i64 o.due, .int .i64 o.stamp, .int .i64 o.epoch, .string o.cron]
abbrev opV (o : OpN) : Value := .agg (opC o)
def opZ : OpN := ⟨0, 0, 0, 0, 0, 0, 0, 0, 0, ⟨#[]⟩⟩
/-- An operation's numbers are int's. -/
structure OpI (o : OpN) : Prop where
  kind : i64 o.kind
  client : i64 o.client
  req : i64 o.req
  id : i64 o.id
  gen : i64 o.gen
  occ : i64 o.occ
  due : i64 o.due
  stamp : i64 o.stamp
  epoch : i64 o.epoch

/-- It may be. -/
def okOp (o : OpN) : Bool := decide (0 ≤ o.kind) && (decide (o.kind ≤ 3) && decide (o.cron.size ≤ 256))
theorem okOp_iff (o : OpN) : okOp o = true ↔ 0 ≤ o.kind ∧ o.kind ≤ 3 ∧ o.cron.size ≤ 256 := by simp [okOp]
theorem okOp_z : okOp opZ = true := by decide

def numsOf (o : OpN) : List Int := [o.client, o.req, o.id, o.gen, o.occ, o.due, o.stamp, o.epoch]
def numsB : List Int → ByteArray
  | [] => ⟨#[]⟩
  | x :: l => encB (zig x) ++ numsB l
def kindB (k : Int) : ByteArray := ⟨#[UInt8.ofNat k.toNat]⟩
def opB (o : OpN) : ByteArray := kindB o.kind ++ (numsB (numsOf o) ++ strB o.cron)

theorem app_none (x : ByteArray) : (⟨#[]⟩ : ByteArray) ++ x = x := text_inj (by rw [bytes_append]; rfl)
theorem app_none' (x : ByteArray) : x ++ (⟨#[]⟩ : ByteArray) = x := text_inj (by rw [bytes_append]; exact List.append_nil _)
theorem app_cancel {a x y : ByteArray} (h : a ++ x = a ++ y) : x = y :=
  text_inj (List.append_cancel_left (by rw [← bytes_append, ← bytes_append, h]))
theorem numsB_append (l m : List Int) : numsB (l ++ m) = numsB l ++ numsB m := by
  induction l with
  | nil => exact (app_none _).symm
  | cons x l ih => show encB (zig x) ++ numsB (l ++ m) = encB (zig x) ++ numsB l ++ numsB m; rw [ih, app_assoc]
theorem numsB_one (x : Int) : numsB [x] = encB (zig x) := app_none' _
theorem enc_size {n : Nat} (h : n < 18446744073709551616) : (encB n).size ≤ 10 := by rw [encB_size]; exact enc_ten h
theorem numsB_size {l : List Int} (h : ∀ x ∈ l, i64 x) : (numsB l).size ≤ 10 * l.length := by
  induction l with
  | nil => exact Nat.le_refl 0
  | cons x l ih =>
    have h1 := enc_size (zig_lt (h x (by simp)).1 (h x (by simp)).2)
    have h2 := ih (fun y hy => h y (by simp [hy]))
    show (encB (zig x) ++ numsB l).size ≤ _
    rw [size_append', List.length_cons]; omega
theorem kindB_size (k : Int) : (kindB k).size = 1 := rfl
theorem OpI.nums {o : OpN} (h : OpI o) : ∀ x ∈ numsOf o, i64 x := by
  intro x hx
  simp only [numsOf, List.mem_cons, List.not_mem_nil, or_false] at hx
  rcases hx with rfl | rfl | rfl | rfl | rfl | rfl | rfl | rfl
  · exact h.client
  · exact h.req
  · exact h.id
  · exact h.gen
  · exact h.occ
  · exact h.due
  · exact h.stamp
  · exact h.epoch
theorem opB_size {o : OpN} (h : OpI o) (hc : o.cron.size ≤ 100000) : (opB o).size ≤ 91 + o.cron.size := by
  have h1 := numsB_size h.nums
  have h2 := enc_size (n := o.cron.size) (by omega)
  have h3 : (numsOf o).length = 8 := rfl
  rw [opB, strB, size_append', size_append', size_append', kindB_size]
  omega
theorem kindB_bytes {k : Int} (h0 : 0 ≤ k) (h3 : k ≤ 255) : bytesOf (kindB k) = [k.toNat] := by
  show [(UInt8.ofNat k.toNat).toNat] = _
  rw [UInt8.toNat_ofNat']
  congr 1
  omega

/-! ### What a reader takes -/
def readK : Nat → St → St
  | 0, s => s
  | k + 1, s => (intS (readK k s)).2
def takeO (s : St) : OpN :=
  let s1 := (byteS s).2
  ⟨(byteS s).1, (intS (readK 0 s1)).1, (intS (readK 1 s1)).1, (intS (readK 2 s1)).1, (intS (readK 3 s1)).1, (intS (readK 4 s1)).1, (intS (readK 5 s1)).1, (intS (readK 6 s1)).1, (intS (readK 7 s1)).1, (strS (readK 8 s1) 256).1⟩
/-- .. and where it is then. -/
def takeT (s : St) : St := (strS (readK 8 (byteS s).2) 256).2
/-- Whether it took one that may be. -/
def tookB (s : St) : Bool := decide ((takeT s).e = 0) && okOp (takeO s)
/-- Take's answer, and where its reader is then. -/
def takeA (s : St) : OpN := if tookB s = true then takeO s else opZ
def takeE (s : St) : St := if okOp (takeO s) = true then takeT s else failS (takeT s) 3

theorem takeE_e (s : St) : decide ((takeE s).e = 0) = tookB s := by
  unfold takeE tookB failS
  by_cases h : okOp (takeO s) = true
  · simp [h]
  · rw [if_neg h]
    by_cases h0 : (takeT s).e = 0
    · simp [h0, h]
    · simp [h0]

theorem byte_back {k : Int} (R : ByteArray) (h0 : 0 ≤ k) (h3 : k ≤ 255) : byteS ⟨kindB k ++ R, 0⟩ = (k, ⟨R, 0⟩) := by
  have hs : 0 < (kindB k ++ R).size := by rw [size_append', kindB_size]; omega
  rw [byteS_one (st := ⟨kindB k ++ R, 0⟩) rfl hs]
  dsimp only
  rw [cut_append (kindB k) R 1 rfl]
  have hb : bytesOf (kindB k ++ R) = k.toNat :: bytesOf R := by rw [bytes_append, kindB_bytes h0 h3]; rfl
  have hd := bytesOf_drop (kindB k ++ R) 0 hs
  rw [List.drop_zero, hb] at hd
  have := (List.cons.inj hd).1
  congr 1
  show (((kindB k ++ R)[0].toNat : Nat) : Int) = k
  rw [← this]
  omega

theorem str_back256 (s R : ByteArray) (hs : s.size ≤ 256) : strS ⟨strB s ++ R, 0⟩ 256 = (s, ⟨R, 0⟩) := by
  rw [strS, strB, app_assoc, uint_back _ _ (by omega)]
  dsimp only
  rw [strT_ok rfl (by unfold tooLong; simp; omega) (by dsimp only; rw [size_append']; omega)]
  dsimp only
  rw [take_append _ _ _ rfl, cut_append _ _ _ rfl]

theorem readK_succ (k : Nat) (s : St) : readK (k + 1) s = readK k (intS s).2 := by
  induction k with
  | zero => rfl
  | succ k ih => show (intS (readK (k + 1) s)).2 = (intS (readK k (intS s).2)).2; rw [ih]
theorem readK_back (l : List Int) (R : ByteArray) (h : ∀ x ∈ l, i64 x) : readK l.length ⟨numsB l ++ R, 0⟩ = ⟨R, 0⟩ := by
  induction l with
  | nil => show (⟨_, 0⟩ : St) = _; rw [numsB, app_none]
  | cons x l ih =>
    have hx := h x (by simp)
    rw [List.length_cons, readK_succ, numsB, app_assoc, int_back _ _ hx.1 hx.2]
    exact ih (fun y hy => h y (by simp [hy]))
theorem readK_at (l m : List Int) (x : Int) (R : ByteArray) (h : ∀ y ∈ l, i64 y) (hx : i64 x) : (intS (readK l.length ⟨numsB (l ++ x :: m) ++ R, 0⟩)).1 = x := by
  rw [numsB_append, app_assoc, readK_back l _ h, numsB, app_assoc, int_back _ _ hx.1 hx.2]

theorem take_back {o : OpN} (R : ByteArray) (ho : okOp o = true) (hi : OpI o) : takeO ⟨opB o ++ R, 0⟩ = o ∧ takeT ⟨opB o ++ R, 0⟩ = ⟨R, 0⟩ := by
  obtain ⟨h0, h3, hc⟩ := (okOp_iff o).1 ho
  have hb : byteS ⟨opB o ++ R, 0⟩ = (o.kind, ⟨numsB (numsOf o) ++ (strB o.cron ++ R), 0⟩) := by
    rw [opB, app_assoc, byte_back _ h0 (by omega), app_assoc]
  have h8 : readK 8 ⟨numsB (numsOf o) ++ (strB o.cron ++ R), 0⟩ = ⟨strB o.cron ++ R, 0⟩ := readK_back (numsOf o) _ hi.nums
  have g1 : ∀ y ∈ [o.client], i64 y := by simp; exact hi.client
  have e0 := readK_at [] [o.req, o.id, o.gen, o.occ, o.due, o.stamp, o.epoch] o.client (strB o.cron ++ R) (by simp) hi.client
  have e1 := readK_at [o.client] [o.id, o.gen, o.occ, o.due, o.stamp, o.epoch] o.req (strB o.cron ++ R) (by simp [hi.client]) hi.req
  have e2 := readK_at [o.client, o.req] [o.gen, o.occ, o.due, o.stamp, o.epoch] o.id (strB o.cron ++ R) (by simp [hi.client, hi.req]) hi.id
  have e3 := readK_at [o.client, o.req, o.id] [o.occ, o.due, o.stamp, o.epoch] o.gen (strB o.cron ++ R) (by simp [hi.client, hi.req, hi.id]) hi.gen
  have e4 := readK_at [o.client, o.req, o.id, o.gen] [o.due, o.stamp, o.epoch] o.occ (strB o.cron ++ R) (by simp [hi.client, hi.req, hi.id, hi.gen]) hi.occ
  have e5 := readK_at [o.client, o.req, o.id, o.gen, o.occ] [o.stamp, o.epoch] o.due (strB o.cron ++ R) (by simp [hi.client, hi.req, hi.id, hi.gen, hi.occ]) hi.due
  have e6 := readK_at [o.client, o.req, o.id, o.gen, o.occ, o.due] [o.epoch] o.stamp (strB o.cron ++ R) (by simp [hi.client, hi.req, hi.id, hi.gen, hi.occ, hi.due]) hi.stamp
  have e7 := readK_at [o.client, o.req, o.id, o.gen, o.occ, o.due, o.stamp] [] o.epoch (strB o.cron ++ R) (by simp [hi.client, hi.req, hi.id, hi.gen, hi.occ, hi.due, hi.stamp]) hi.epoch
  constructor
  · unfold takeO
    dsimp only
    rw [hb]
    dsimp only
    rw [h8, str_back256 _ _ hc]
    cases o
    simp only [OpN.mk.injEq, true_and, and_true]
    exact ⟨e0, e1, e2, e3, e4, e5, e6, e7⟩
  · unfold takeT
    rw [hb]
    dsimp only
    rw [h8, str_back256 _ _ hc]
theorem took_back {o : OpN} (R : ByteArray) (ho : okOp o = true) (hi : OpI o) : tookB ⟨opB o ++ R, 0⟩ = true := by
  obtain ⟨h1, h2⟩ := take_back R ho hi
  unfold tookB
  rw [h1, h2, ho]; rfl

/-- Unlike operations have unlike bytes, whatever stands behind them. -/
theorem opB_inj {a b : OpN} {R S : ByteArray} (ha : okOp a = true) (hb : okOp b = true) (ia : OpI a) (ib : OpI b) (h : opB a ++ R = opB b ++ S) : a = b ∧ R = S := by
  obtain ⟨h1, h2⟩ := take_back R ha ia
  obtain ⟨h3, h4⟩ := take_back S hb ib
  rw [h] at h1 h2
  exact ⟨h1.symm.trans h3, congrArg St.rest (h2.symm.trans h4)⟩

/-! ### What was read is what is printed -/
theorem cut_join (s : ByteArray) (k : Nat) : s.extract 0 k ++ cutS s k = s :=
  text_inj (by rw [bytes_append, bytes_take, bytes_cut, List.take_append_drop])
theorem uintS_nonneg (s : St) : 0 ≤ (uintS s).1 := by obtain ⟨d, h, _⟩ := uintS_nat s; omega
theorem uint_is {s : St} (h0 : (uintS s).2.e = 0) : s.e = 0 ∧ ∃ m : Nat, m < 18446744073709551616 ∧ (uintS s).1 = (m : Int) ∧ s.rest = encB m ++ (uintS s).2.rest := by
  by_cases he : s.e = 0
  · refine ⟨he, ?_⟩
    rcases num_err (bytesOf s.rest) 0 0 with h | h | h
    · have hn : num 0 0 (bytesOf s.rest) = ((num 0 0 (bytesOf s.rest)).1, (num 0 0 (bytesOf s.rest)).2.1, 0) := Prod.ext rfl (Prod.ext rfl h)
      obtain ⟨m, k, hsz, hk, hkl, ht, hm, -, hlt⟩ := num_is _ 0 0 _ _ (by omega) (bytesOf_lt s.rest) hn
      rw [uintS_ok he hn]
      refine ⟨m, by simpa using hlt, by dsimp only; rw [hm]; simp, ?_⟩
      dsimp only
      rw [hsz, Nat.zero_add]
      have : encB m = s.rest.extract 0 k := text_inj (by rw [bytes_enc, bytes_take, ht])
      rw [this, cut_join]
    · rw [uintS_bad he (by decide) h] at h0; simp at h0
    · rw [uintS_bad he (by decide) h] at h0; simp at h0
  · rw [uintS_err he] at h0; exact absurd h0 he
theorem zig_unzig {d : Nat} : zig (unzig d) = d := by unfold unzig zig; split <;> split <;> omega
theorem unzig_i64 {d : Nat} (h : d < 18446744073709551616) : i64 (unzig d) := by unfold i64 unzig; split <;> omega
theorem int_is {s : St} (h0 : (intS s).2.e = 0) : s.e = 0 ∧ i64 (intS s).1 ∧ s.rest = encB (zig (intS s).1) ++ (intS s).2.rest := by
  obtain ⟨he, m, hlt, hm, hr⟩ := uint_is (s := s) h0
  have e : (intS s).1 = unzig m := by unfold intS; dsimp only; rw [hm]; rfl
  rw [e, zig_unzig]
  exact ⟨he, unzig_i64 hlt, hr⟩
theorem intS_i64 (s : St) : i64 (intS s).1 := by
  obtain ⟨d, h, hl⟩ := uintS_nat s
  have e : (intS s).1 = unzig d := by unfold intS; dsimp only; rw [h]; rfl
  rw [e]; exact unzig_i64 hl
theorem byteS_lt (s : St) : 0 ≤ (byteS s).1 ∧ (byteS s).1 ≤ 255 := by
  by_cases he : s.e = 0
  · by_cases hz : s.rest.size = 0
    · rw [byteS_none he hz]; exact ⟨Int.le_refl 0, by dsimp only; omega⟩
    · have hp : 0 < s.rest.size := by omega
      have := UInt8.toNat_lt (s.rest[0]'hp)
      rw [byteS_one he hp]
      dsimp only
      omega
  · rw [byteS_err he]; exact ⟨Int.le_refl 0, by dsimp only; omega⟩
theorem byte_is {s : St} (h0 : (byteS s).2.e = 0) : s.e = 0 ∧ s.rest = kindB (byteS s).1 ++ (byteS s).2.rest := by
  by_cases he : s.e = 0
  · refine ⟨he, ?_⟩
    by_cases hz : s.rest.size = 0
    · rw [byteS_none he hz] at h0; simp at h0
    · have hp : 0 < s.rest.size := by omega
      rw [byteS_one he hp]
      dsimp only
      apply text_inj
      have hd := bytesOf_drop s.rest 0 hp
      rw [List.drop_zero] at hd
      have hl := UInt8.toNat_lt (s.rest[0]'hp)
      rw [bytes_append, kindB_bytes (by omega) (by omega), bytes_cut, Int.toNat_natCast]
      exact hd
  · rw [byteS_err he] at h0; exact absurd h0 he
theorem str_is {s : St} {m : Int} (h0 : (strS s m).2.e = 0) : s.e = 0 ∧ s.rest = strB (strS s m).1 ++ (strS s m).2.rest := by
  by_cases hu : (uintS s).2.e = 0
  · obtain ⟨he, n, hlt, hn, hr⟩ := uint_is hu
    refine ⟨he, ?_⟩
    unfold strS at h0 ⊢
    rw [hn] at h0 ⊢
    by_cases hl : tooLong n m = true
    · rw [strT_long hu hl] at h0; simp at h0
    · by_cases ht : ((uintS s).2.rest.size : Int) < n
      · rw [strT_torn hu hl ht] at h0; simp at h0
      · rw [strT_ok hu hl ht]
        dsimp only
        rw [strB, size_take _ _ (by omega), app_assoc, cut_join]
        exact hr
  · unfold strS at h0
    rw [strT_err m hu] at h0
    exact absurd h0 hu

theorem readK_is {k : Nat} {s : St} (h0 : (readK k s).e = 0) : s.e = 0 ∧ s.rest = numsB ((List.range k).map fun j => (intS (readK j s)).1) ++ (readK k s).rest := by
  induction k with
  | zero => exact ⟨h0, (app_none _).symm⟩
  | succ k ih =>
    have h1 : (intS (readK k s)).2.e = 0 := h0
    obtain ⟨he, -, hr⟩ := int_is h1
    obtain ⟨h2, h3⟩ := ih he
    refine ⟨h2, ?_⟩
    rw [List.range_succ, List.map_append, numsB_append, app_assoc]
    show _ = _ ++ (numsB [(intS (readK k s)).1] ++ _)
    rw [numsB_one]
    show _ = _ ++ (encB (zig (intS (readK k s)).1) ++ (intS (readK k s)).2.rest)
    rw [← hr]
    exact h3
theorem takeO_int (s : St) : OpI (takeO s) := by
  have hb := byteS_lt s
  exact ⟨⟨by unfold takeO; dsimp only; omega, by unfold takeO; dsimp only; omega⟩, intS_i64 _, intS_i64 _, intS_i64 _, intS_i64 _, intS_i64 _, intS_i64 _, intS_i64 _, intS_i64 _⟩
/-- What was read is what is printed. -/
theorem take_is {s : St} (h0 : (takeT s).e = 0) : s.e = 0 ∧ s.rest = opB (takeO s) ++ (takeT s).rest := by
  have h1 : (strS (readK 8 (byteS s).2) 256).2.e = 0 := h0
  obtain ⟨a1, a2⟩ := str_is h1
  obtain ⟨b1, b2⟩ := readK_is a1
  obtain ⟨c1, c2⟩ := byte_is b1
  refine ⟨c1, ?_⟩
  rw [opB, app_assoc, app_assoc]
  have e : numsOf (takeO s) = (List.range 8).map fun j => (intS (readK j (byteS s).2)).1 := rfl
  rw [e]
  show s.rest = kindB (byteS s).1 ++ (_ ++ (strB (strS (readK 8 (byteS s).2) 256).1 ++ (strS (readK 8 (byteS s).2) 256).2.rest))
  rw [← a2, ← b2]
  exact c2
theorem strS_size (s : St) : (strS s 256).1.size ≤ 256 := by
  unfold strS
  obtain ⟨d, h, hl⟩ := uintS_nat s
  rw [h]
  unfold strT
  split
  · split
    · exact Nat.zero_le _
    · split
      · exact Nat.zero_le _
      · rename_i h1 h2 h3
        dsimp only
        simp only [tooLong, decide_eq_true_eq, not_or] at h2
        rw [Int.toNat_natCast, size_take _ _ (by omega)]
        omega
  · exact Nat.zero_le _
theorem takeO_cron (s : St) : (takeO s).cron.size ≤ 256 := strS_size _
theorem takeA_int (s : St) : OpI (takeA s) := by
  unfold takeA
  split
  · exact takeO_int s
  · have h : i64 0 := ⟨by decide, by decide⟩
    exact ⟨h, h, h, h, h, h, h, h, h⟩
end Go.Proofs.Ytaemoojhmknicaa
