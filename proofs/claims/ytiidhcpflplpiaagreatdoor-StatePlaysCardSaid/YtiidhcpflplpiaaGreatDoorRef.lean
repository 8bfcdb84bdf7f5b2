/-
  The document's Parse (layer 4) for any text of at most 1000 bytes; all (every so many numbers of a field), two, list.
-/
import Derived.Test.YtiidhcpflplpiaaGreatDoorParse
namespace Go.Proofs.YtiidhcpflplpiaaGreatDoor
open Go.RowKit Crn

set_option maxRecDepth 100000 in
set_option maxHeartbeats 400000 in
theorem parse_long (s : ByteArray) (w : World) (hs : 256 < s.size) (hm : s.size ≤ 1000) :
    Calls Tryz.prog 25 #[.string s] w fun e w' => e = answerP none ∧ Below w.heap.size w w' := by
  go_enter Tryz.func25, Tryz.ntmps25
  go_wp2_with fail
  refine bodyPost_ret (v := .tuple #[specV zero, .bool false]) ?_ rfl ?_
  · rw [results_cell_tmp rfl]
    go_simp
    rfl
  · exact ⟨rfl, ((Below.refl _ _).alloc (Nat.le_refl _) _).alloc (by simp) _⟩

theorem refParse_any (s : ByteArray) (w : World) (hm : s.size ≤ 1000) :
    Calls Tryz.prog 25 #[.string s] w fun e w' => e = answerP (parse s.data.toList) ∧ Below w.heap.size w w' := by
  by_cases h : 256 < s.size
  · have e : parse s.data.toList = none := by
      unfold parse
      exact if_pos (by simpa using h)
    rw [e]
    exact parse_long s w h hm
  · exact parse_any s w h

set_option maxRecDepth 100000 in
set_option maxHeartbeats 400000 in
theorem all_core (f : Nat) (st : Nat) (w : World) (hf : f < 5) (h1 : 1 ≤ st) (h2 : st ≤ 99) (B : Nat) (hB : B ≤ 59) (fb : Bool) (e4 : ((f : Int) == 4) = fb) (hcase : (fb = true ∧ B = 6) ∨ (fb = false ∧ B = high f)) (hbit : Hid (∀ n, n ≤ B → bitN f n = 2 ^ n)) :
    Calls Tryz.prog 66 #[.int .i64 f, .int .i64 st] w fun e w' => e = .returned (.int .u64 (bitsN f (low f) B st : Nat)) ∧ Below w.heap.size w w' := by
  have Cl := Lib.hid (fun W => low_any f W hf)
  have Ch := Lib.hid (fun W => high_any f W hf)
  have hlow : low f ≤ 1 := by unfold low; split <;> omega
  have hhigh : high f ≤ 59 := by
    have : ∀ f, f < 5 → high f ≤ 59 := by decide
    exact this f hf
  rcases hcase with ⟨rfl, rfl⟩ | ⟨rfl, rfl⟩
  · go_enter Tryz.func66, Tryz.ntmps66
    go_wp2_with fail
    refine (Ch.out _).mono ?_
    rintro e w1 ⟨rfl, k1⟩
    replace k1 := Lib.hid k1
    go_wp2_with fail
    refine (Cl.out _).mono ?_
    rintro e w' ⟨rfl, rfl⟩
    go_wp2_with fail
    go_loop [6, 7] (fun set n => ∃ k m t : Nat, n = .int .i64 m ∧ set = .int .u64 t ∧ m ≤ 200 ∧ t < 18446744073709551616 ∧ 6 + 1 - m ≤ k ∧ Hid (gatherN f (6) st k m t = bitsN f (low f) (6) st)) (fun _ n => 6 + 1 - (intOf n).toNat)
    case atStart => exact ⟨64, low f, 0, rfl, rfl, by omega, by omega, by omega, rfl⟩
    case round =>
      obtain ⟨k, m, t, rfl, rfl, hm200, ht64, hfuel, hg⟩ := hrel
      by_cases hmt : m ≤ 6
      · have hm64 : m < 64 := by omega
        have hn := Lib.hid (gather_next hmt hfuel hg.out)
        rw [hbit.out m hmt] at hn
        go_wp2_with fail
        refine ⟨⟨k - 1, m + st, t ||| 2 ^ m, by go_num, by rw [or_pow t m ht64 hm64], by omega, or_lt ht64 hm64, by omega, hn⟩, by simp [intOf]; omega⟩
      · have hn := Lib.hid (run_stop (st := st) (k := k) (set := t) (f := f) hmt)
        go_wp2_with fail
        go_ret
        exact ⟨ret_int (by rw [← hg.out, hn.out]), k1.out⟩
  · go_enter Tryz.func66, Tryz.ntmps66
    go_wp2_with fail
    refine (Ch.out _).mono ?_
    rintro e w1 ⟨rfl, k1⟩
    replace k1 := Lib.hid k1
    go_wp2_with fail
    refine (Cl.out _).mono ?_
    rintro e w' ⟨rfl, rfl⟩
    go_wp2_with fail
    go_loop [6, 7] (fun set n => ∃ k m t : Nat, n = .int .i64 m ∧ set = .int .u64 t ∧ m ≤ 200 ∧ t < 18446744073709551616 ∧ high f + 1 - m ≤ k ∧ Hid (gatherN f (high f) st k m t = bitsN f (low f) (high f) st)) (fun _ n => high f + 1 - (intOf n).toNat)
    case atStart => exact ⟨64, low f, 0, rfl, rfl, by omega, by omega, by omega, rfl⟩
    case round =>
      obtain ⟨k, m, t, rfl, rfl, hm200, ht64, hfuel, hg⟩ := hrel
      by_cases hmt : m ≤ high f
      · have hm64 : m < 64 := by omega
        have hn := Lib.hid (gather_next hmt hfuel hg.out)
        rw [hbit.out m hmt] at hn
        go_wp2_with fail
        refine ⟨⟨k - 1, m + st, t ||| 2 ^ m, by go_num, by rw [or_pow t m ht64 hm64], by omega, or_lt ht64 hm64, by omega, hn⟩, by simp [intOf]; omega⟩
      · have hn := Lib.hid (run_stop (st := st) (k := k) (set := t) (f := f) hmt)
        go_wp2_with fail
        go_ret
        exact ⟨ret_int (by rw [← hg.out, hn.out]), k1.out⟩

theorem all_any (f : Nat) (st : Nat) (w : World) (hf : f < 5) (h1 : 1 ≤ st) (h2 : st ≤ 99) :
    Calls Tryz.prog 66 #[.int .i64 f, .int .i64 st] w fun e w' => e = .returned (.int .u64 (every f st : Nat)) ∧ Below w.heap.size w w' := by
  have hhigh : high f ≤ 59 := by
    have : ∀ f, f < 5 → high f ≤ 59 := by decide
    exact this f hf
  by_cases h4 : f = 4
  · have ht : top f = 6 := by rw [h4]; rfl
    have := all_core f st w hf h1 h2 6 (by omega) true (by simp; omega) (Or.inl ⟨rfl, rfl⟩) (fun n hn => bit_plain (by omega))
    unfold every
    rw [ht]
    exact this
  · have ht : top f = high f := by unfold top; rw [if_neg h4]
    have := all_core f st w hf h1 h2 (high f) hhigh false (by simp; omega) (Or.inr ⟨rfl, rfl⟩) (fun n hn => bit_plain (by omega))
    unfold every
    rw [ht]
    exact this

/-! Texts of one and two bytes that a call makes. -/
theorem buf_new (w : World) (l : Bytes) (cs : Array Value) (h : cs = (l.map fun a => Value.int .u8 (a.toNat : Nat)).toArray) : Buf (w.alloc (.cells cs 5)) w.heap.size l := by
  subst h
  refine ⟨fun j hj => ?_, fun j hj => ?_⟩
  · rw [World.cell?_alloc_new]
    simp [hj]
  · rw [frozen?_alloc_cells]
    simp [World.frozen?]
theorem digit_byte {d : Nat} (h : d < 10) : (48 : Int) + d = ((UInt8.ofNat (48 + d)).toNat : Nat) := by
  rw [UInt8.toNat_ofNat_of_lt' (by show 48 + d < 256; omega)]
  omega

end Go.Proofs.YtiidhcpflplpiaaGreatDoor
