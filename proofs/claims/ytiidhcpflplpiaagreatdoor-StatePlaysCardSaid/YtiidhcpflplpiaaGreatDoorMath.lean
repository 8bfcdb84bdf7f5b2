/-
  Cron texts in plain bytes (no program): how a text is split, what a part, a field and a text say. Every function here is the document's answer by definition.
-/
namespace Crn

abbrev Bytes := List UInt8

/-- Cut at each byte of a kind. -/
def splitP (p : UInt8 → Bool) : Bytes → List Bytes
  | [] => [[]]
  | b :: r => if p b then [] :: splitP p r else match splitP p r with
    | [] => [[b]]
    | h :: t => (b :: h) :: t
def split (c : UInt8) : Bytes → List Bytes := splitP (· == c)

def isBlank (b : UInt8) : Bool := b == 32 || b == 9
/-- The fields of a text: what lies between blanks, and isn't empty. -/
def words (s : Bytes) : List Bytes := (splitP isBlank s).filter (fun w => !w.isEmpty)

def small1 (b : UInt8) : UInt8 := if 65 ≤ b ∧ b ≤ 90 then b + 32 else b
def small (s : Bytes) : Bytes := s.map small1

def low (f : Nat) : Nat := if f = 2 ∨ f = 3 then 1 else 0
def high (f : Nat) : Nat := [59, 23, 31, 12, 7].getD f 0
/-- The greatest number of a field in a set: of the days of the week 6. -/
def top (f : Nat) : Nat := if f = 4 then 6 else high f

def monthNames : List Bytes := [[106, 97, 110], [102, 101, 98], [109, 97, 114], [97, 112, 114], [109, 97, 121], [106, 117, 110], [106, 117, 108], [97, 117, 103], [115, 101, 112], [111, 99, 116], [110, 111, 118], [100, 101, 99]]
def dayNames : List Bytes := [[115, 117, 110], [109, 111, 110], [116, 117, 101], [119, 101, 100], [116, 104, 117], [102, 114, 105], [115, 97, 116]]
def names (f : Nat) : List Bytes := if f = 3 then monthNames else if f = 4 then dayNames else []

def digit (b : UInt8) : Option Nat := if 48 ≤ b ∧ b ≤ 57 then some (b.toNat - 48) else none
/-- A number of one or two digits. -/
def number : Bytes → Option Nat
  | [a] => digit a
  | [a, b] => match digit a, digit b with
    | some x, some y => some (x * 10 + y)
    | _, _ => none
  | _ => none

/-- Where a name stands, from k on. -/
def find (s : Bytes) : Nat → List Bytes → Option Nat
  | _, [] => none
  | k, n :: r => if s = n then some k else find s (k + 1) r

def place (f : Nat) (s : Bytes) : Option Nat :=
  match find (small s) 0 (names f) with
  | some i => some (low f + i)
  | none => match number s with
    | some n => if low f ≤ n ∧ n ≤ high f then some n else none
    | none => none

/-- The bit of a number; the 7 of a day of the week is 0. -/
def bitN (f n : Nat) : Nat := if f = 4 ∧ n = 7 then 1 else 2 ^ n
/-- From a to b, every so many, k numbers at most: behind set. -/
def gatherN (f : Nat) (b step : Nat) : Nat → Nat → Nat → Nat
  | 0, _, set => set
  | k + 1, n, set => if n ≤ b then gatherN f b step k (n + step) (set ||| bitN f n) else set
def bitsN (f a b step : Nat) : Nat := gatherN f b step 64 a 0

def star : Bytes := [42]
/-- What stands ahead of the step. -/
def spanN (f : Nat) (p : Bytes) (step : Nat) : Option Nat :=
  if p = star then some (bitsN f (low f) (top f) step) else
  match split 45 p with
  | [x] => match place f x with
    | some a => some (bitsN f a a step)
    | none => none
  | [x, y] => match place f x, place f y with
    | some a, some b => if b < a then none else some (bitsN f a b step)
    | _, _ => none
  | _ => none

def partN (f : Nat) (s : Bytes) : Option Nat :=
  match split 47 s with
  | [p] => spanN f p 1
  | [p, q] => match number q with
    | some step => if 1 ≤ step ∧ (p = star ∨ (split 45 p).length = 2) then spanN f p step else none
    | none => none
  | _ => none

/-- Parts together, behind set. -/
def parts (f : Nat) : List Bytes → Nat → Option Nat
  | [], set => some set
  | p :: r, set => match partN f p with
    | some n => parts f r (set ||| n)
    | none => none
def field (f : Nat) (s : Bytes) : Option Nat := parts f (split 44 s) 0

def aheadN : Bytes → Option Int
  | [g, h1, h2, m1, m2] => if g = 43 ∨ g = 45 then
      match number [h1, h2], number [m1, m2] with
      | some h, some m => if h ≤ 14 ∧ m ≤ 59 then some (if g = 45 then -(60 * (h : Int)) - m else 60 * (h : Int) + m) else none
      | _, _ => none
    else none
  | _ => none

structure SpecN where
  min : Nat
  hour : Nat
  dom : Nat
  mon : Nat
  dow : Nat
  anyDom : Bool
  anyDow : Bool
  ahead : Int
deriving DecidableEq

def zero : SpecN := ⟨0, 0, 0, 0, 0, false, false, 0⟩

def five (a b c d e : Bytes) (n : Int) : Option SpecN :=
  match field 0 a, field 1 b, field 2 c, field 3 d, field 4 e with
  | some x0, some x1, some x2, some x3, some x4 => some ⟨x0, x1, x2, x3, x4, c.head? == some 42, e.head? == some 42, n⟩
  | _, _, _, _, _ => none

def parse (s : Bytes) : Option SpecN :=
  if 256 < s.length then none else
  match words s with
  | [a, b, c, d, e] => five a b c d e 0
  | [a, b, c, d, e, z] => match aheadN z with
    | some n => five a b c d e n
    | none => none
  | _ => none

/-! What is right, and the text of a spec. -/
def every (f step : Nat) : Nat := bitsN f (low f) (top f) step
def okSet (f set : Nat) : Bool := set != 0 && set &&& every f 1 == set
def right (x : SpecN) : Bool := okSet 0 x.min && okSet 1 x.hour && okSet 2 x.dom && okSet 3 x.mon && okSet 4 x.dow && decide (-899 ≤ x.ahead ∧ x.ahead ≤ 899)

def two (n : Nat) : Bytes := [UInt8.ofNat (48 + n / 10), UInt8.ofNat (48 + n % 10)]
def num (n : Nat) : Bytes := if 10 ≤ n then two n else [UInt8.ofNat (48 + n)]
def join (c : UInt8) : List Bytes → Bytes
  | [] => []
  | [p] => p
  | p :: q :: r => p ++ c :: join c (q :: r)
def members (set : Nat) : List Nat := (List.range 64).filter (fun n => set.testBit n)
def list (set : Nat) : Bytes := join 44 ((members set).map num)
/-- The least step, from k on. -/
def stepOf (f set : Nat) : Nat → Nat → Option Nat
  | 0, _ => none
  | k + 1, n => if set = every f n then some n else stepOf f set k (n + 1)
def anyText (f set : Nat) : Bytes :=
  if set = every f 1 then star else
  match stepOf f set 99 1 with
  | some n => [42, 47] ++ list (2 ^ (n % 64))
  | none => []
def fieldText (f set : Nat) (any : Bool) : Bytes := if any then anyText f set else list set
def aheadText (n : Int) : Bytes :=
  if 0 < n then [32, 43] ++ two (n.toNat / 60) ++ two (n.toNat % 60) else
  if n < 0 then [32, 45] ++ two ((-n).toNat / 60) ++ two ((-n).toNat % 60) else []
def text (x : SpecN) : Bytes :=
  if right x then
    let l := [fieldText 0 x.min false, fieldText 1 x.hour false, fieldText 2 x.dom x.anyDom, fieldText 3 x.mon false, fieldText 4 x.dow x.anyDow]
    if l.any (fun t => t.isEmpty) then [] else join 32 l ++ aheadText x.ahead
  else []

def has (set : Nat) (n : Int) : Bool := decide (0 ≤ n ∧ n ≤ 63) && set.testBit n.toNat
def day (x : SpecN) (month d weekday : Int) : Bool :=
  has x.mon month && (if x.anyDom || x.anyDow then has x.dom d && has x.dow weekday else has x.dom d || has x.dow weekday)
def minute (x : SpecN) (hour m : Int) : Bool := has x.hour hour && has x.min m
end Crn
