/-
  Layer 7: the answers that the document fixes (awake).
-/
import Derived.Test.YtdkdkkledlolcaaSOps2
namespace Go.Proofs.Ytdkdkkledlolcaa
open Go.RowKit
set_option maxRecDepth 100000

abbrev tA : ByteArray := ⟨#[97]⟩
abbrev tBC : ByteArray := ⟨#[98, 99]⟩
abbrev tD : ByteArray := ⟨#[100]⟩
abbrev t0 : ByteArray := ⟨#[]⟩

theorem cat_one (t : ByteArray) : cat [t] = recB t := by show recB t ++ ⟨#[]⟩ = _; rw [app_nil]
theorem sizeA : tA.size = 1 := rfl
theorem sizeBC : tBC.size = 2 := rfl
theorem sizeD : tD.size = 1 := rfl
theorem size0 : t0.size = 0 := rfl
theorem mostA : (recB tA).size ≤ 15 := by have := recB_most (t := tA) (by rw [sizeA]; omega); rw [sizeA] at this; exact this
theorem mostBC : (recB tBC).size ≤ 16 := by have := recB_most (t := tBC) (by rw [sizeBC]; omega); rw [sizeBC] at this; exact this
theorem leastBC : 7 ≤ (recB tBC).size := by have := recB_least tBC; rw [sizeBC] at this; exact this

def S1 : ByteArray := recB tA
def S2 : ByteArray := recB tA ++ (recB tBC).extract 0 3
def S4 : ByteArray := recB tA ++ recB tBC
theorem S1_size : S1.size ≤ 15 := mostA
theorem aw1 : errS t0 false tA = 0 := errS_ok (by rw [sizeA]; omega) (by have := mostA; rw [size0]; omega)
theorem aw1' : appS t0 false tA = S1 := by rw [appS, if_pos aw1, S1, nil_app]
theorem aw2 : errS S1 false tBC = 0 := errS_ok (by rw [sizeBC]; omega) (by have := S1_size; have := mostBC; omega)
theorem aw2' : crS S1 false tBC 3 = S2 := by
  have : keepN 3 (recB tBC).size = 3 := by have := leastBC; unfold keepN; omega
  rw [crS, if_pos aw2, this]; rfl
theorem aw2t : crT S1 false tBC = true := by rw [crT, if_pos aw2]
theorem aw3 : errS S2 true tD = 13 := errS_torn (by rw [sizeD]; omega)
theorem aw3' : appS S2 true tD = S2 := by rw [appS, if_neg (by rw [aw3]; omega)]
theorem aw4 : S2 = cat [tA] ++ (recB tBC).extract 0 3 := by rw [cat_one]; rfl
theorem aw4n : NoRec ((recB tBC).extract 0 3) := noRec_cut tBC 3 (by rw [sizeBC]; omega) (by have := leastBC; omega)
theorem aw5' : crS (cat [tA]) false tBC 99 = S4 := by
  have h : keepN 99 (recB tBC).size = (recB tBC).size := by have := mostBC; unfold keepN; omega
  have e : (recB tBC).extract 0 (recB tBC).size = recB tBC := D.text_inj (by rw [D.bytes_take, List.take_of_length_le (by rw [D.bytesOf_len]; omega)])
  rw [cat_one, crS, if_pos (show errS (recB tA) false tBC = 0 from aw2), h, e]; rfl
theorem aw6 : S4 = cat [tA, tBC] ++ ⟨#[]⟩ := by
  rw [app_nil]; show recB tA ++ recB tBC = recB tA ++ cat [tBC]; rw [cat_one]
theorem bytesA_two : (recB tA).extract 0 2 = ⟨#[1, 97]⟩ := by
  have h : D.strB tA = ⟨#[1, 97]⟩ := by
    apply D.text_inj
    rw [D.strB, D.bytes_append, D.bytes_enc, sizeA, D.Cod.enc_small (by omega)]; rfl
  rw [recB_eq, h]
  exact D.take_append _ _ _ rfl
theorem bytesA_size : (recB tA).size = 6 := by
  rw [recB_size, strB_size, sizeA, D.Cod.enc_small (by omega)]; rfl

theorem lit_one (w : World) : Strs (w.alloc (.cells #[.string tA] 9)) (.slice (some ⟨w.heap.size, 0, none⟩) 1 1) [tA] :=
  ⟨some ⟨w.heap.size, 0, none⟩, 1, rfl, Or.inr ⟨w.heap.size, 0, rfl, fun i hi => by
    have : i = 0 := by simpa using hi
    subst this; simp⟩⟩
theorem lit_two (w : World) : Strs (w.alloc (.cells #[.string tA, .string tBC] 9)) (.slice (some ⟨w.heap.size, 0, none⟩) 2 2) [tA, tBC] :=
  ⟨some ⟨w.heap.size, 0, none⟩, 2, rfl, Or.inr ⟨w.heap.size, 0, rfl, fun i hi => by
    have : i = 0 ∨ i = 1 := by simp at hi; omega
    rcases this with rfl | rfl <;> simp⟩⟩

theorem own_at {w : World} {base e size n g : Nat} {v : Value} {xs : List Value} (h : w.ownsRow base e size v n xs) (hg : v.ownBlock = some g) : ∃ cur, w.heap[g]? = some (.cells cur e (0, 0)) := by
  rcases h.2 with ⟨rfl, _⟩ | ⟨g', cap, cur, rfl, _, hh, _⟩
  · simp [Value.ownBlock] at hg
  · simp [Value.ownBlock] at hg
    subst hg
    exact ⟨cur, hh⟩
theorem type_ne {w : World} {a b : Nat} {c d : Array Value} {t u : Nat} {f h : Nat × Nat} (h1 : w.heap[a]? = some (.cells c t f)) (h2 : w.heap[b]? = some (.cells d u h)) (hn : t ≠ u) : a ≠ b := by
  intro e
  subst e
  rw [h1] at h2
  injection h2 with h2
  injection h2 with _ h3 _
  exact hn h3
/-- A row of texts stays while a log is written. -/
theorem Row.turn {B base : Nat} {w w' : World} {b : Nat} {S : ByteArray} {torn : Bool} {p : Option Addr} {cap : Nat} {v : Value} {l : List ByteArray} (o : Row w base v l) (t : Lg B w b S torn p cap) (T : Turn b (.slice p S.size cap) w w') : Row w' base v l :=
  own_same o fun g hg => by
    obtain ⟨cur, hc⟩ := own_at o hg
    exact T.block g (own_lt o hg).2 (type_ne hc t.blk (by decide)) (own_ne t.own hc (by decide))
theorem Row.keep {B base : Nat} {w w' : World} {b : Nat} {S : ByteArray} {torn : Bool} {p : Option Addr} {cap : Nat} {v : Value} {l : List ByteArray} (o : Row w base v l) (t : Lg B w b S torn p cap) (T : D.Kept b w w') : Row w' base v l :=
  own_same o fun g hg => by
    obtain ⟨cur, hc⟩ := own_at o hg
    exact T.block g (own_lt o hg).2 (type_ne hc t.blk (by decide))

set_option maxHeartbeats 1600000 in
theorem awake_any (w : World) : Calls Try.prog 8 #[] w fun e w' => e = .returned (.bool true) ∧ Below w.heap.size w w' := by
  go_enter Try.func8, Try.ntmps8
  go_wp2_with fail
  refine (new_any _).mono ?_
  rintro e w1 ⟨rfl, t1, b1⟩
  replace t1 := Lib.hid t1
  replace b1 := Lib.hid b1
  go_wp2_with fail
  refine (append_any w1 w.heap.size t0 tA false none 0 t1.out).mono ?_
  rw [aw1, aw1']
  rintro e w2 ⟨rfl, ⟨p2, cap2, t2⟩, T2⟩
  replace b1 : Hid (Below w.heap.size w w2) := b1.out.trans (t1.out.turn T2)
  replace t2 := Lib.hid t2
  clear t1 T2
  go_wp2_with fail
  refine (crash_any w2 w.heap.size S1 tBC false p2 cap2 3 t2.out).mono ?_
  rw [aw2, aw2', aw2t]
  rintro e w3 ⟨rfl, ⟨p3, cap3, t3⟩, T3⟩
  replace b1 : Hid (Below w.heap.size w w3) := b1.out.trans (t2.out.turn T3)
  replace t3 := Lib.hid t3
  clear t2 T3
  go_wp2_with fail
  refine (append_any w3 w.heap.size S2 tD true p3 cap3 t3.out).mono ?_
  rw [aw3, aw3']
  rintro e w4 ⟨rfl, ⟨p4, cap4, t4⟩, T4⟩
  replace b1 : Hid (Below w.heap.size w w4) := b1.out.trans (t3.out.turn T4)
  replace t4 := Lib.hid t4
  clear t3 T4
  go_wp2_with fail
  refine (recover_any w4 w.heap.size S2 _ [tA] true p4 cap4 t4.out aw4 aw4n).mono ?_
  rintro e w5 ⟨x, rfl, ox, t5, k5⟩
  replace b1 : Hid (Below w.heap.size w w5) := b1.out.trans (k5.below (Nat.le_refl _) b1.out.size)
  replace t5 := Lib.hid t5
  replace ox := Lib.hid ox
  clear t4 k5
  go_wp2_with fail
  refine (crash_any w5 w.heap.size (cat [tA]) tBC false p4 cap4 99 t5.out).mono ?_
  rw [show errS (cat [tA]) false tBC = 0 by rw [cat_one]; exact aw2, aw5', show crT (cat [tA]) false tBC = true by rw [cat_one]; exact aw2t]
  rintro e w6 ⟨rfl, ⟨p6, cap6, t6⟩, T6⟩
  replace b1 : Hid (Below w.heap.size w w6) := b1.out.trans (t5.out.turn T6)
  replace ox := Lib.hid (ox.out.turn t5.out T6)
  replace t6 := Lib.hid t6
  clear t5 T6
  go_wp2_with fail
  refine (recover_any w6 w.heap.size S4 _ [tA, tBC] true p6 cap6 t6.out aw6 noRec_nil).mono ?_
  rintro e w7 ⟨y, rfl, oy, t7, k7⟩
  replace b1 : Hid (Below w.heap.size w w7) := b1.out.trans (k7.below (Nat.le_refl _) b1.out.size)
  have sx := Lib.hid (Row.strs (ox.out.keep t6.out k7))
  have sy := Lib.hid oy.strs
  clear t6 t7 k7 ox oy
  go_wp2_with fail
  have z8 : Below w7.heap.size w7 (w7.alloc (.cells #[.string tA] 9)) := (Below.refl _ _).alloc (Nat.le_refl _) _
  refine (same_any _ _ [tA] _ (sx.out.below z8) (lit_one w7) (by simp)).mono ?_
  rintro e w8 ⟨rfl, b8⟩
  have b78 : Below w7.heap.size w7 w8 := z8.trans (b8.mono (by simp))
  replace b1 : Hid (Below w.heap.size w w8) := b1.out.trans (b78.mono b1.out.size)
  replace sy := Lib.hid (sy.out.below b78)
  clear b8 b78 z8 sx
  go_wp2_with fail
  have z9 : Below w8.heap.size w8 (w8.alloc (.cells #[.string tA, .string tBC] 9)) := (Below.refl _ _).alloc (Nat.le_refl _) _
  refine (same_any _ _ [tA, tBC] _ (sy.out.below z9) (lit_two w8) (by simp)).mono ?_
  rintro e w9 ⟨rfl, b9⟩
  have b89 : Below w8.heap.size w8 w9 := z9.trans (b9.mono (by simp))
  replace b1 : Hid (Below w.heap.size w w9) := b1.out.trans (b89.mono b1.out.size)
  clear b9 b89 z9 sy
  have h2 := bytesA_two
  have h6 := bytesA_size
  have h6i : ((recB tA).size : Int) = 6 := by rw [h6]; rfl
  go_wp2_with fail
  refine (bytes_any tA _ (by rw [sizeA]; omega)).mono ?_
  rintro e w10 ⟨rfl, b10⟩
  replace b1 : Hid (Below w.heap.size w w10) := b1.out.trans (b10.mono b1.out.size)
  clear b10
  generalize hR : recB tA = R at *
  have hle : (2 : Int) ≤ (R.size : Int) := by omega
  go_wp2_with fail
  refine (bytes_any tA _ (by rw [sizeA]; omega)).mono ?_
  rintro e w11 ⟨rfl, b11⟩
  rw [hR]
  replace b1 : Hid (Below w.heap.size w w11) := b1.out.trans (b11.mono b1.out.size)
  clear b11 hR
  go_wp2_with fail
  go_ret
  exact ⟨rfl, b1.out⟩
end Go.Proofs.Ytdkdkkledlolcaa
