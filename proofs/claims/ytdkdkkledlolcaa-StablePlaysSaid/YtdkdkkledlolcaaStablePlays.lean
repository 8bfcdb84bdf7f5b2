/-
  StablePlays holds: in every order of calls, crashes among them, records are there, and refused, as the document says. No condition.
-/
import Derived.Test.YtdkdkkledlolcaaSRow
import Derived.Deep.RegionHeld3
namespace Go.Proofs.Ytdkdkkledlolcaa.stablePlays
open Go.ChangeShapes Go.WideShapes Go.ChangeAt Go.RowKit
open Go.ChangeMaps (open_string shut_string)
set_option linter.unusedVariables false

theorem own : ownKnob Try.prog.godebug = none := by kernel_rfl
theorem laidOut : laidOutB Try.prog = true := by kernel_rfl

set_option maxRecDepth 100000

set_option maxHeartbeats 800000 in
theorem walk_long (a : Option Addr) (len cap : Nat) (w : World) (hlong : ∀ W, Hid (Below w.heap.size w W → Calls Try.prog 9 #[.slice a len cap] W fun e w' => e = .returned (.bool true) ∧ Below W.heap.size W w')) :
    Calls Try.prog 3 #[.slice a len cap] w fun e w' => e = .returned (.bool true) ∧ Below w.heap.size w w' := by
  have H := Lib.hid hlong
  clear hlong
  go_enter Try.func3, Try.ntmps3
  go_wp2_with fail
  refine (awake_any _).mono ?_
  rintro e w1 ⟨rfl, b1⟩
  replace b1 := Lib.hid b1
  go_wp2_with fail
  refine ((H.out _).out b1.out).mono ?_
  rintro e w2 ⟨rfl, k2⟩
  have b2 := Lib.hid (b1.out.trans (k2.mono b1.out.size))
  clear k2 b1
  go_wp2_with fail
  refine (awake_any _).mono ?_
  rintro e w3 ⟨rfl, k3⟩
  have b3 := Lib.hid (b2.out.trans (k3.mono b2.out.size))
  clear k3 b2
  go_wp2_with fail
  go_ret
  exact ⟨rfl, b3.out⟩

/-- What the loop keeps: the program's log and the document's have the same bytes, torn or not. -/
def Inv (w : World) (r b : Nat) (wr : World) : Prop :=
  ∃ (S : ByteArray) (torn : Bool) (p : Option Addr) (cap : Nat), Lg w.heap.size wr b S torn p cap ∧ Rl wr r S torn ∧ Below w.heap.size w wr

theorem Op3.drew {w : World} {q : Nat} {k m : Int} {T : ByteArray} (t : Op3 w q k m T) : Op3 w.drew q k m T := ⟨t.blk⟩
theorem Rl.drew {w : World} {b : Nat} {S : ByteArray} {torn : Bool} (t : Rl w b S torn) : Rl w.drew b S torn := ⟨t.blk, t.sz⟩
/-- Another log, made behind this one, stays while this one is written. -/
theorem other {B B2 : Nat} {w w' : World} {b c : Nat} {S R : ByteArray} {torn t1 : Bool} {p p2 : Option Addr} {cap cap2 : Nat} (x : Lg B2 w c R t1 p2 cap2) (t : Lg B w b S torn p cap) (hc : c ≠ b) (hg : ∀ g, (Value.slice p2 R.size cap2).ownBlock = some g → (Value.slice p S.size cap).ownBlock ≠ some g) (h : Turn b (.slice p S.size cap) w w') : Lg B2 w' c R t1 p2 cap2 :=
  x.same (h.block c x.lt hc (own_ne t.own x.blk (by decide))) fun g hgg => by
    obtain ⟨cur, hcur⟩ := own_at x.own hgg
    exact h.block g (own_lt x.own hgg).2 (type_ne hcur t.blk (by decide)) (hg g hgg)
theorem other2 {B B2 : Nat} {w w' : World} {b c : Nat} {S R : ByteArray} {torn t1 : Bool} {p p2 : Option Addr} {cap cap2 : Nat} (x : Lg B2 w c R t1 p2 cap2) (t : Lg B w b S torn p cap) (hc : c ≠ b) (h : D.Kept b w w') : Lg B2 w' c R t1 p2 cap2 :=
  x.same (h.block c x.lt hc) fun g hgg => by
    obtain ⟨cur, hcur⟩ := own_at x.own hgg
    exact h.block g (own_lt x.own hgg).2 (type_ne hcur t.blk (by decide))
theorem Lg.base {B B2 : Nat} {w : World} {b : Nat} {S : ByteArray} {torn : Bool} {p : Option Addr} {cap : Nat} (t : Lg B w b S torn p cap) (h : B2 ≤ B) : Lg B2 w b S torn p cap := ⟨t.blk, own_base t.own h, t.sz, Nat.le_trans h t.hb⟩

set_option maxHeartbeats 6400000 in
theorem walk_short (a : Option Addr) (len cap : Nat) (K M : Nat → Int) (T : Nat → ByteArray) (w : World) (hops : IsOps w a len K M T) (hlen : len * 8 ≤ 65536)
    (hlong : ∀ W, Hid (Below w.heap.size w W → Calls Try.prog 9 #[.slice a len cap] W fun e w' => e = .returned (.bool false) ∧ Below W.heap.size W w')) :
    Calls Try.prog 3 #[.slice a len cap] w fun e w' => e = .returned (.bool true) ∧ Below w.heap.size w w' := by
  have H := Lib.hid hlong
  have hops0 := Lib.hid hops
  clear hlong hops
  go_enter Try.func3, Try.ntmps3
  go_wp2_with fail
  refine (awake_any _).mono ?_
  rintro e w1 ⟨rfl, b1⟩
  replace b1 := Lib.hid b1
  go_wp2_with fail
  refine ((H.out _).out b1.out).mono ?_
  rintro e w2 ⟨rfl, k2⟩
  have b2 := Lib.hid (b1.out.trans (k2.mono b1.out.size))
  clear k2 b1 H
  go_wp2_with fail
  refine (new_any _).mono ?_
  rintro e w3 ⟨rfl, t3, k3⟩
  have b3 := Lib.hid (b2.out.trans (k3.mono b2.out.size))
  have z4 : Below w3.heap.size w3 (w3.alloc (.cells #[.string ⟨#[]⟩, .bool false] 29)) := (Below.refl _ _).alloc (Nat.le_refl _) _
  have hr : w.heap.size ≤ w3.heap.size := b3.out.size
  have i4 : Hid (Inv w w3.heap.size w2.heap.size (w3.alloc (.cells #[.string ⟨#[]⟩, .bool false] 29))) := ⟨⟨#[]⟩, false, none, 0, (Lg.base t3 b2.out.size).below z4, ⟨heap_alloc_new w3 _, by show (0 : Nat) ≤ 65536; omega⟩, b3.out.trans (z4.mono hr)⟩
  clear k3 t3 b2 b3 z4
  go_wp2_with fail
  generalize w3.alloc (.cells #[.string ⟨#[]⟩, .bool false] 29) = w4 at *
  generalize w2.heap.size = b0 at *
  generalize w3.heap.size = r at *
  go_loopw [3, 22] (fun v i wr => ∃ k b : Nat, k ≤ len ∧ v = .pointer (some ⟨b, 0, none⟩) ∧ i = .int .i64 k ∧ Hid (Inv w r b wr)) (fun _ i _ => len - (intOf i).toNat)
  case atStart => exact ⟨0, b0, by omega, rfl, rfl, i4⟩
  case round =>
    obtain ⟨k, b, hk, rfl, rfl, hinv⟩ := hrel
    obtain ⟨S, torn, p, cp, t, rl, br⟩ := hinv.out
    replace t := Lib.hid t
    replace rl := Lib.hid rl
    replace br := Lib.hid br
    clear hinv i4
    by_cases hlt : k < len
    · obtain ⟨y, off, rfl, c0, c1, c2, hz, hl⟩ := hops0.out.at br.out k hlt
      clear hops0 hl
      generalize K k = kk at *
      generalize M k = mm at *
      generalize T k = tt at *
      have hlt2 : (k : Int) < len := by omega
      have o5 := Lib.hid (Op3.new wr kk mm tt)
      have z5 : Below wr.heap.size wr (wr.alloc (.cells #[.int .i64 kk, .int .i64 mm, .string tt] 31)) := (Below.refl _ _).alloc (Nat.le_refl _) _
      have t5 := Lib.hid (t.out.below z5)
      have rl5 := Lib.hid (rl.out.below z5)
      have br5 : Hid (Below w.heap.size w (wr.alloc (.cells #[.int .i64 kk, .int .i64 mm, .string tt] 31))) := br.out.trans (z5.mono br.out.size)
      have d0 := o5.out.c0
      clear z5 t rl br
      by_cases h1 : kk = 1
      · have e1 : (kk == 1) = true := by simp [h1]
        replace h1 := Lib.hid h1
        have d2 := o5.out.c2
        go_wp2_with fail
        clear c0 c1 c2 d0
        generalize wr.alloc (.cells #[.int .i64 kk, .int .i64 mm, .string tt] 31) = w5 at *
        generalize wr.heap.size = q at *
        replace t5 := Lib.hid t5.out.drew
        go_region_held3 (fun w' => w'.cell? ⟨q, 2, none⟩ = some (.string tt)) (first | exact d2 | exact d6 | exact d7 | go_keep)
          (first
            | (go_at_call 11; refine (append_any _ b S tt torn p cp t5.out).mono ?_; rintro e w6 ⟨rfl, ⟨p7, cp7, t6⟩, T6⟩; have o6 : Hid (Op3 w6 q kk mm tt) := (Op3.drew o5.out).turn t5.out T6; have rl6 : Hid (Rl w6 r S torn) := (Rl.drew rl5.out).turn t5.out T6; have br6 : Hid (Below w.heap.size w w6) := br5.out.drew.trans (t5.out.turn T6); have t6 := Lib.hid t6; have d6 := o6.out.c2; clear T6)
            | (go_at_call 12; refine (refCrash_any _ r S tt torn true 0 rl6.out).mono ?_; rintro e w7 ⟨rfl, rl7, k7⟩; have o7 : Hid (Op3 w7 q kk mm tt) := o6.out.keptR rl6.out k7; have t7 := Lib.hid (t6.out.keptR rl6.out k7); have rl7 := Lib.hid rl7; have br7 : Hid (Below w.heap.size w w7) := br6.out.trans (k7.below hr br6.out.size); have d7 := o7.out.c2; clear k7))
        have t7' := t7
        replace rl7 : Hid (Rl w7 r (appS S torn tt) torn) := rl7
        clear o5 o6 o7 t5 t6 rl5 rl6 br5 br6 d2 d6 d7 t7'
        generalize appS S torn tt = S7 at *
        generalize errS S torn tt = er at *
        have hS7 := t7.out.sz
        obtain ⟨ls, Q, hls, hQ⟩ := scan_ex S7.size S7 (Nat.le_refl _)
        have hsc := Lib.hid (fun W => refScan_any S7 Q ls W (by omega) hls hQ)
        have hal := Lib.hid (fun W (X : Lg w.heap.size W b S7 torn p7 cp7) => all_any W b S7 Q ls torn p7 cp7 X hls hQ)
        have hln : ls.length ≤ 1000000 := by
          have h1 := cat_len ls
          have h2 := congrArg ByteArray.size hls
          rw [D.size_append'] at h2
          omega
        clear hls hQ
        generalize (cat ls).size = nn at *
        have c7 := rl7.out.c0
        go_wp2_with fail
        refine (hsc.out _).mono ?_
        rintro e w8 ⟨u, rfl, ou, b8⟩
        have t8 : Lg w.heap.size w8.drew b S7 torn p7 cp7 := (t7.out.below b8).drew
        replace t8 := Lib.hid t8
        have rl8 := Lib.hid (rl7.out.below b8)
        have br8 : Hid (Below w.heap.size w w8) := br7.out.trans (b8.mono br7.out.size)
        have su : Hid (Strs w8.drew u ls) := (Row.strs ou).below ((Below.refl _ _).drew)
        have c8 := rl8.out.c0
        clear c7 t7 rl7 br7 b8 ou hsc
        go_wp2_with fail
        go_region_held3 (fun w' => w'.cell? ⟨r, 0, none⟩ = some (.string S7)) (first | exact c8 | exact c9 | exact c10 | go_keep)
          (first
            | (go_at_call 19; refine (size_any _ b S7 torn p7 cp7 t8.out).mono ?_; rintro e w' ⟨rfl, rfl⟩)
            | (go_at_call 20; refine (hal.out _ t8.out).mono ?_; rintro e w9 ⟨x, rfl, ox, b9⟩; have sx := Lib.hid (Row.strs ox); have sv := Lib.hid (su.out.below b9); have t9 := Lib.hid (t8.out.below b9); have rl9 : Hid (Rl w9 r S7 torn) := (rl8.out.same (w' := w8.drew) rfl).below b9; have br9 : Hid (Below w.heap.size w w9) := br8.out.drew.trans (b9.mono br8.out.size); have c9 := rl9.out.c0)
            | (go_at_call 14; refine (same_any _ _ ls _ sx.out sv.out hln).mono ?_; rintro e w10 ⟨rfl, b10⟩; have t10 := Lib.hid (t9.out.below b10); have rl10 := Lib.hid (rl9.out.below b10); have br10 : Hid (Below w.heap.size w w10) := br9.out.trans (b10.mono br9.out.size); have c10 := rl10.out.c0))
        have i10 : Hid (Inv w r b w10) := ⟨S7, torn, p7, cp7, t10.out, rl10.out, br10.out⟩
        clear c8 c9 c10 t8 t9 t10 rl8 rl9 rl10 br8 br9 br10 su sx sv hal
        go_wp2_with fail
        refine ⟨⟨k + 1, b, by omega, rfl, by go_num, i10⟩, ?_⟩
        simp [intOf]; omega
      · have e1 : (kk == 1) = false := by simpa using h1
        replace h1 := Lib.hid h1
        by_cases h2 : kk = 2
        · have e2 : (kk == 2) = true := by simp [h2]
          replace h2 := Lib.hid h2
          have d1 := o5.out.c1
          have d2 := o5.out.c2
          go_wp2_with fail
          clear c0 c1 c2 d0
          generalize wr.alloc (.cells #[.int .i64 kk, .int .i64 mm, .string tt] 31) = w5 at *
          generalize wr.heap.size = q at *
          replace t5 := Lib.hid t5.out.drew
          go_region_held3 (fun w' => w'.cell? ⟨q, 2, none⟩ = some (.string tt) ∧ w'.cell? ⟨q, 1, none⟩ = some (.int .i64 mm)) (first | exact ⟨d2, d1⟩ | exact ⟨d6, f6⟩ | exact ⟨d7, f7⟩ | go_keep)
            (first
              | (go_at_call 13; refine (crash_any _ b S tt torn p cp mm t5.out).mono ?_; rintro e w6 ⟨rfl, ⟨p7, cp7, t6⟩, T6⟩; have o6 : Hid (Op3 w6 q kk mm tt) := (Op3.drew o5.out).turn t5.out T6; have rl6 : Hid (Rl w6 r S torn) := (Rl.drew rl5.out).turn t5.out T6; have br6 : Hid (Below w.heap.size w w6) := br5.out.drew.trans (t5.out.turn T6); have t6 := Lib.hid t6; have d6 := o6.out.c2; have f6 := o6.out.c1; clear T6)
              | (go_at_call 12; refine (refCrash_any _ r S tt torn false mm rl6.out).mono ?_; rintro e w7 ⟨rfl, rl7, k7⟩; have o7 : Hid (Op3 w7 q kk mm tt) := o6.out.keptR rl6.out k7; have t7 := Lib.hid (t6.out.keptR rl6.out k7); have rl7 := Lib.hid rl7; have br7 : Hid (Below w.heap.size w w7) := br6.out.trans (k7.below hr br6.out.size); have d7 := o7.out.c2; have f7 := o7.out.c1; clear k7))
          replace rl7 : Hid (Rl w7 r (crS S torn tt mm) (crT S torn tt)) := rl7
          clear o5 o6 o7 t5 t6 rl5 rl6 br5 br6 d1 d2 d6 d7 f6 f7
          generalize crS S torn tt mm = S7 at *
          generalize crT S torn tt = torn7 at *
          generalize errS S torn tt = er at *
          have hS7 := t7.out.sz
          obtain ⟨ls, Q, hls, hQ⟩ := scan_ex S7.size S7 (Nat.le_refl _)
          have hsc := Lib.hid (fun W => refScan_any S7 Q ls W (by omega) hls hQ)
          have hal := Lib.hid (fun W (X : Lg w.heap.size W b S7 torn7 p7 cp7) => all_any W b S7 Q ls torn7 p7 cp7 X hls hQ)
          have hln : ls.length ≤ 1000000 := by
            have h1 := cat_len ls
            have h2 := congrArg ByteArray.size hls
            rw [D.size_append'] at h2
            omega
          clear hls hQ
          generalize (cat ls).size = nn at *
          have c7 := rl7.out.c0
          go_wp2_with fail
          refine (hsc.out _).mono ?_
          rintro e w8 ⟨u, rfl, ou, b8⟩
          have t8 : Lg w.heap.size w8.drew b S7 torn7 p7 cp7 := (t7.out.below b8).drew
          replace t8 := Lib.hid t8
          have rl8 := Lib.hid (rl7.out.below b8)
          have br8 : Hid (Below w.heap.size w w8) := br7.out.trans (b8.mono br7.out.size)
          have su : Hid (Strs w8.drew u ls) := (Row.strs ou).below ((Below.refl _ _).drew)
          have c8 := rl8.out.c0
          clear c7 t7 rl7 br7 b8 ou hsc
          go_wp2_with fail
          go_region_held3 (fun w' => w'.cell? ⟨r, 0, none⟩ = some (.string S7)) (first | exact c8 | exact c9 | exact c10 | go_keep)
            (first
              | (go_at_call 19; refine (size_any _ b S7 torn7 p7 cp7 t8.out).mono ?_; rintro e w' ⟨rfl, rfl⟩)
              | (go_at_call 20; refine (hal.out _ t8.out).mono ?_; rintro e w9 ⟨x, rfl, ox, b9⟩; have sx := Lib.hid (Row.strs ox); have sv := Lib.hid (su.out.below b9); have t9 := Lib.hid (t8.out.below b9); have rl9 : Hid (Rl w9 r S7 torn7) := (rl8.out.same (w' := w8.drew) rfl).below b9; have br9 : Hid (Below w.heap.size w w9) := br8.out.drew.trans (b9.mono br8.out.size); have c9 := rl9.out.c0)
              | (go_at_call 14; refine (same_any _ _ ls _ sx.out sv.out hln).mono ?_; rintro e w10 ⟨rfl, b10⟩; have t10 := Lib.hid (t9.out.below b10); have rl10 := Lib.hid (rl9.out.below b10); have br10 : Hid (Below w.heap.size w w10) := br9.out.trans (b10.mono br9.out.size); have c10 := rl10.out.c0))
          have i10 : Hid (Inv w r b w10) := ⟨S7, torn7, p7, cp7, t10.out, rl10.out, br10.out⟩
          clear c8 c9 c10 t8 t9 t10 rl8 rl9 rl10 br8 br9 br10 su sx sv hal
          go_wp2_with fail
          refine ⟨⟨k + 1, b, by omega, rfl, by go_num, i10⟩, ?_⟩
          simp [intOf]; omega
        · have e2 : (kk == 2) = false := by simpa using h2
          replace h2 := Lib.hid h2
          by_cases h3 : kk = 3
          · have e3 : (kk == 3) = true := by simp [h3]
            replace h3 := Lib.hid h3
            obtain ⟨l0, Q0, hl0, hQ0⟩ := scan_ex S.size S (Nat.le_refl _)
            have hR1 := Lib.hid (fun W (X : Lg w.heap.size W b S torn p cp) => recover_any W b S Q0 l0 torn p cp X hl0 hQ0)
            have hR2 := Lib.hid (fun W (X : Rl W r S torn) => refRecover_any W r S Q0 l0 torn X hl0 hQ0)
            have hln0 : l0.length ≤ 1000000 := by
              have h1 := cat_len l0
              have h2 := congrArg ByteArray.size hl0
              rw [D.size_append'] at h2
              have := t5.out.sz
              omega
            clear hl0 hQ0
            go_wp2_with fail
            clear c0 c1 c2 d0
            generalize wr.alloc (.cells #[.int .i64 kk, .int .i64 mm, .string tt] 31) = w5 at *
            generalize wr.heap.size = q at *
            refine (hR1.out _ t5.out).mono ?_
            rintro e w6 ⟨x, rfl, ox, t6, k6⟩
            have rl6 := Lib.hid (rl5.out.kept t5.out k6)
            have br6 : Hid (Below w.heap.size w w6) := br5.out.trans (k6.below t5.out.hb br5.out.size)
            replace t6 := Lib.hid t6
            replace ox := Lib.hid ox
            clear t5 rl5 br5 k6 o5 hR1
            go_wp2_with fail
            refine (hR2.out _ rl6.out).mono ?_
            rintro e w6b ⟨y2, rfl, oy, rl6b, k6b⟩
            have sx := Lib.hid (Row.strs (Row.keptR ox.out rl6.out k6b))
            have sy := Lib.hid (Row.strs oy)
            have t6b := Lib.hid (t6.out.keptR rl6.out k6b)
            have br6b : Hid (Below w.heap.size w w6b) := br6.out.trans (k6b.below hr br6.out.size)
            replace rl6b := Lib.hid rl6b
            clear ox oy k6b rl6 t6 br6 hR2
            go_wp2_with fail
            refine (same_any _ _ l0 _ sx.out sy.out hln0).mono ?_
            rintro e w7 ⟨rfl, b7b⟩
            have t7 := Lib.hid (t6b.out.below b7b)
            have rl7 := Lib.hid (rl6b.out.below b7b)
            have br7 : Hid (Below w.heap.size w w7) := br6b.out.trans (b7b.mono br6b.out.size)
            clear sx sy t6b rl6b br6b b7b hln0
            generalize cat l0 = S7 at *
            have hS7 := t7.out.sz
            obtain ⟨ls, Q, hls, hQ⟩ := scan_ex S7.size S7 (Nat.le_refl _)
            have hsc := Lib.hid (fun W => refScan_any S7 Q ls W (by omega) hls hQ)
            have hal := Lib.hid (fun W (X : Lg w.heap.size W b S7 false p cp) => all_any W b S7 Q ls false p cp X hls hQ)
            have hln : ls.length ≤ 1000000 := by
              have h1 := cat_len ls
              have h2 := congrArg ByteArray.size hls
              rw [D.size_append'] at h2
              omega
            clear hls hQ
            generalize (cat ls).size = nn at *
            have c7 := rl7.out.c0
            go_wp2_with fail
            refine (hsc.out _).mono ?_
            rintro e w8 ⟨u, rfl, ou, b8⟩
            have t8 : Lg w.heap.size w8.drew b S7 false p cp := (t7.out.below b8).drew
            replace t8 := Lib.hid t8
            have rl8 := Lib.hid (rl7.out.below b8)
            have br8 : Hid (Below w.heap.size w w8) := br7.out.trans (b8.mono br7.out.size)
            have su : Hid (Strs w8.drew u ls) := (Row.strs ou).below ((Below.refl _ _).drew)
            have c8 := rl8.out.c0
            clear c7 t7 rl7 br7 b8 ou hsc
            go_wp2_with fail
            go_region_held3 (fun w' => w'.cell? ⟨r, 0, none⟩ = some (.string S7)) (first | exact c8 | exact c9 | exact c10 | go_keep)
              (first
                | (go_at_call 19; refine (size_any _ b S7 false p cp t8.out).mono ?_; rintro e w' ⟨rfl, rfl⟩)
                | (go_at_call 20; refine (hal.out _ t8.out).mono ?_; rintro e w9 ⟨x, rfl, ox, b9⟩; have sx := Lib.hid (Row.strs ox); have sv := Lib.hid (su.out.below b9); have t9 := Lib.hid (t8.out.below b9); have rl9 : Hid (Rl w9 r S7 false) := (rl8.out.same (w' := w8.drew) rfl).below b9; have br9 : Hid (Below w.heap.size w w9) := br8.out.drew.trans (b9.mono br8.out.size); have c9 := rl9.out.c0)
                | (go_at_call 14; refine (same_any _ _ ls _ sx.out sv.out hln).mono ?_; rintro e w10 ⟨rfl, b10⟩; have t10 := Lib.hid (t9.out.below b10); have rl10 := Lib.hid (rl9.out.below b10); have br10 : Hid (Below w.heap.size w w10) := br9.out.trans (b10.mono br9.out.size); have c10 := rl10.out.c0))
            have i10 : Hid (Inv w r b w10) := ⟨S7, false, p, cp, t10.out, rl10.out, br10.out⟩
            clear c8 c9 c10 t8 t9 t10 rl8 rl9 rl10 br8 br9 br10 su sx sv hal
            go_wp2_with fail
            refine ⟨⟨k + 1, b, by omega, rfl, by go_num, i10⟩, ?_⟩
            simp [intOf]; omega
          · have e3 : (kk == 3) = false := by simpa using h3
            replace h3 := Lib.hid h3
            obtain ⟨l0, Q0, hl0, hQ0⟩ := scan_ex (appS S torn ⟨#[120]⟩).size (appS S torn ⟨#[120]⟩) (Nat.le_refl _)
            have hR1 := Lib.hid (fun W pa ca (X : Lg w.heap.size W b (appS S torn ⟨#[120]⟩) torn pa ca) => recover_any W b _ Q0 l0 torn pa ca X hl0 hQ0)
            clear hl0 hQ0
            go_wp2_with fail
            clear c0 c1 c2 d0
            generalize wr.alloc (.cells #[.int .i64 kk, .int .i64 mm, .string tt] 31) = w5 at *
            generalize wr.heap.size = q at *
            refine (copy_any w5 b S torn p cp t5.out).mono ?_
            rintro e w6 ⟨c, rfl, hcw, ⟨p7, cp7, tc⟩, b6⟩
            have hcb : c ≠ b := by have := t5.out.lt; omega
            have hgg : Hid (∀ g, (Value.slice p7 S.size cp7).ownBlock = some g → (Value.slice p S.size cp).ownBlock ≠ some g) := fun g h1 h2 => by
              have z1 := (own_lt tc.own h1).1
              have z2 := (own_lt t5.out.own h2).2
              omega
            have hw5 := br5.out.size
            have t6 := Lib.hid (t5.out.below b6)
            have rl6 := Lib.hid (rl5.out.below b6)
            have br6 : Hid (Below w.heap.size w w6) := br5.out.trans (b6.mono hw5)
            replace tc := Lib.hid (Lg.base tc hw5)
            clear t5 rl5 br5 b6 o5
            go_wp2_with fail
            refine (append_any w6 b S ⟨#[120]⟩ torn p cp t6.out).mono ?_
            rintro e w6b ⟨rfl, ⟨pa, ca, t6b⟩, T6⟩
            have tc2 := Lib.hid (other tc.out t6.out hcb hgg.out T6)
            have rl6b := Lib.hid (rl6.out.turn t6.out T6)
            have br6b : Hid (Below w.heap.size w w6b) := br6.out.trans (t6.out.turn T6)
            replace t6b := Lib.hid t6b
            clear tc t6 rl6 br6 T6 hgg
            generalize errS S torn ⟨#[120]⟩ = er at *
            go_wp2_with fail
            refine (hR1.out _ pa ca t6b.out).mono ?_
            rintro e w7 ⟨x, rfl, -, -, k7⟩
            have t7 := Lib.hid (other2 tc2.out t6b.out hcb k7)
            have rl7 := Lib.hid (rl6b.out.kept t6b.out k7)
            have br7 : Hid (Below w.heap.size w w7) := br6b.out.trans (k7.below t6b.out.hb br6b.out.size)
            clear k7 tc2 t6b rl6b br6b hR1
            have hS7 := t7.out.sz
            obtain ⟨ls, Q, hls, hQ⟩ := scan_ex S.size S (Nat.le_refl _)
            have hsc := Lib.hid (fun W => refScan_any S Q ls W (by omega) hls hQ)
            have hal := Lib.hid (fun W (X : Lg w.heap.size W c S torn p7 cp7) => all_any W c S Q ls torn p7 cp7 X hls hQ)
            have hln : ls.length ≤ 1000000 := by
              have h1 := cat_len ls
              have h2 := congrArg ByteArray.size hls
              rw [D.size_append'] at h2
              omega
            clear hls hQ
            generalize (cat ls).size = nn at *
            have c7 := rl7.out.c0
            go_wp2_with fail
            refine (hsc.out _).mono ?_
            rintro e w8 ⟨u, rfl, ou, b8⟩
            have t8 : Lg w.heap.size w8.drew c S torn p7 cp7 := (t7.out.below b8).drew
            replace t8 := Lib.hid t8
            have rl8 := Lib.hid (rl7.out.below b8)
            have br8 : Hid (Below w.heap.size w w8) := br7.out.trans (b8.mono br7.out.size)
            have su : Hid (Strs w8.drew u ls) := (Row.strs ou).below ((Below.refl _ _).drew)
            have c8 := rl8.out.c0
            clear c7 t7 rl7 br7 b8 ou hsc
            go_wp2_with fail
            go_region_held3 (fun w' => w'.cell? ⟨r, 0, none⟩ = some (.string S)) (first | exact c8 | exact c9 | exact c10 | go_keep)
              (first
                | (go_at_call 19; refine (size_any _ c S torn p7 cp7 t8.out).mono ?_; rintro e w' ⟨rfl, rfl⟩)
                | (go_at_call 20; refine (hal.out _ t8.out).mono ?_; rintro e w9 ⟨x, rfl, ox, b9⟩; have sx := Lib.hid (Row.strs ox); have sv := Lib.hid (su.out.below b9); have t9 := Lib.hid (t8.out.below b9); have rl9 : Hid (Rl w9 r S torn) := (rl8.out.same (w' := w8.drew) rfl).below b9; have br9 : Hid (Below w.heap.size w w9) := br8.out.drew.trans (b9.mono br8.out.size); have c9 := rl9.out.c0)
                | (go_at_call 14; refine (same_any _ _ ls _ sx.out sv.out hln).mono ?_; rintro e w10 ⟨rfl, b10⟩; have t10 := Lib.hid (t9.out.below b10); have rl10 := Lib.hid (rl9.out.below b10); have br10 : Hid (Below w.heap.size w w10) := br9.out.trans (b10.mono br9.out.size); have c10 := rl10.out.c0))
            have i10 : Hid (Inv w r c w10) := ⟨S, torn, p7, cp7, t10.out, rl10.out, br10.out⟩
            clear c8 c9 c10 t8 t9 t10 rl8 rl9 rl10 br8 br9 br10 su sx sv hal
            go_wp2_with fail
            refine ⟨⟨k + 1, c, by omega, rfl, by go_num, i10⟩, ?_⟩
            simp [intOf]; omega
    · clear hops0
      go_wp2_with fail
      go_ret
      exact ⟨rfl, br.out⟩

theorem walk (a : Option Addr) (len cap : Nat) (K M : Nat → Int) (T : Nat → ByteArray) (w : World) (hops : IsOps w a len K M T) :
    Calls Try.prog 3 #[.slice a len cap] w fun e w' => e = .returned (.bool true) ∧ Below w.heap.size w w' := by
  by_cases h : 65536 < sumN T len
  · exact walk_long a len cap w fun W hW => (long_any a len cap K M T w W hops hW).mono fun e w' ⟨he, hb⟩ => ⟨by rw [he, decide_eq_true h], hb⟩
  · exact walk_short a len cap K M T w hops (by have := sumN_least T len; omega) fun W hW => (long_any a len cap K M T w W hops hW).mono fun e w' ⟨he, hb⟩ => ⟨by rw [he, decide_eq_false h], hb⟩

set_option maxRecDepth 100000 in
theorem lifted (os : Os) (started : os.Started) (H : Type) (enc : TypeId × Value → H) :
    ReturnsInHanded {} Try.checked os 3 .any (Rows.stablePlaysSpec.pre6 enc Try.prog Try.f3 Rows.stablePlaysRow.domain false) (Rows.stablePlaysSpec.post enc Try.prog Try.f3 false true false false) := by
  refine returnsInHanded_of_change (C := Try.checked) own started (by kernel_rfl) Try.func3
    (ChangeSpec.witness6 (enc := enc) (C := Try.checked) false ⟨#[], #[.slice none 0 0], []⟩ 8 (by kernel_rfl) (by kernel_rfl) (by kernel_rfl) (by kernel_rfl)) ?_
  intro W base args ds gs before hval0 hW _ _
  have hval : ∀ (j : Nat) t v, Try.f3.params[j]? = some t → args[j]? = some v → Value.okWide Try.prog W .any base t v := hval0
  have hW' := hW
  obtain ⟨p, q, hA0, hV, rfl, hfz, hnd⟩ := hW
  have hA : DataW.TrodAll enc Try.prog W 0 (fun _ => true) true Try.f3.params.toList args.toList ds p := hA0
  rw [Try.params3] at hA hval
  obtain ⟨v0, vs0, d0, ds0, p0, q0, hargs, rfl, rfl, h0, r0⟩ := trodAll_cons hA
  obtain ⟨rfl, rfl, rfl⟩ := trodAll_nil r0
  obtain rfl : args = #[v0] := by cases args; simp_all
  obtain ⟨rfl, rfl⟩ := trodVars_none hV
  obtain ⟨a0, len0, cap0, rfl⟩ := okWide_slice Try.underlying22 (hval 0 22 v0 rfl rfl)
  have k0 := h0
  have lt0 : ∀ x ∈ p0, x.block < W.heap.size := by obtain ⟨m, hm⟩ := k0; exact DataW.trod_lt m _ _ _ hm
  obtain ⟨K0, M0, T0, w0⟩ : ∃ K M T, IsOps W a0 len0 K M T := by
    obtain ⟨fuel, hf⟩ := h0
    exact isOps_of hf
  clear hA0 hval0
  refine (walk a0 len0 cap0 K0 M0 T0 W w0).mono fun e W' ⟨he, bel⟩ => ?_
  subst he
  exact ⟨_, rfl, _, _, _, [], _, [], hW', trodAll_mk1 (shut_bool Try.underlying4 _), (trodAll_cons_mk (Below.trod laidOut (by kernel_rfl) (of_decide_eq_true (by kernel_rfl)) k0 bel lt0) trodAll_mk0), rfl, bel.frame _, fun h => by cases h⟩

theorem over : Rows.stablePlaysRow.holds Try.pinned (OpenSpec.ofChange Rows.stablePlaysSpec) :=
  OpenClaim.holds_of_wide 3 Try.f3 rfl rfl rfl rfl rfl rfl rfl ⟨rfl, rfl, rfl, rfl, rfl⟩ rfl rfl rfl rfl rfl (by kernel_rfl) Try.func3 (by kernel_rfl)
    (of_decide_eq_true (by kernel_rfl)) (by unfold Func.isWrapper; first | (rw [if_pos (by decide +kernel)]; kernel_rfl) | (rw [if_neg (by decide +kernel)]; exact ⟨rfl, rfl⟩))
    (fun os started H enc _ => lifted os started H enc)

/-- The statement. -/
theorem proved : Rows.StablePlaysSaid := over
#print axioms proved
end Go.Proofs.Ytdkdkkledlolcaa.stablePlays
