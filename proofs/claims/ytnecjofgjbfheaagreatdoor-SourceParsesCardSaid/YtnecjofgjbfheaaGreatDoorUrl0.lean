/- URLs in plain words: what is cleaned off, the scheme, the authority, the path, the query, the fragment; what is written of a URL. -/
import Derived.Lib.MapLaws
import Derived.Lib.ValidLaws
import Derived.Lib.LastIndexByte
import Derived.Lib.SlTrimSet
import Derived.Lib.TrimByte
import Derived.Lib.Join
import Derived.Test.YtnecjofgjbfheaaGreatDoorShelf
import Derived.Laws.RangeAny
import Derived.Laws.Runes
import Derived.BigQuiet
import Derived.BigRegion
import Derived.Lib.Small
import Derived.WalkMore
import Derived.Lib.OthersKept
import Derived.Lib.TrimUEq
import Derived.Test.YtnecjofgjbfheaaGreatDoorKit
import Derived.Test.YtnecjofgjbfheaaGreatDoorPlain
import Derived.Test.YtnecjofgjbfheaaGreatDoorAsc1
import Derived.Test.YtnecjofgjbfheaaGreatDoorAsc4
import Derived.Test.YtnecjofgjbfheaaGreatDoorRow
import Derived.Test.YtnecjofgjbfheaaGreatDoorFp
import Derived.Test.YtnecjofgjbfheaaGreatDoorPct0
import Derived.Test.YtnecjofgjbfheaaGreatDoorHst0
namespace Go.Proofs.YtnecjofgjbfheaaGreatDoor
open Go.RowKit
open Go.RowKit Go.Proofs
set_option maxRecDepth 100000

structure UrlM where
  sch : List UInt8
  usr : List UInt8
  pas : List UInt8
  hos : List UInt8
  prt : Int
  pth : List UInt8
  hq : Bool
  qry : List UInt8
  hf : Bool
  frg : List UInt8

def urlZ : UrlM := ⟨[], [], [], [], 0, [], false, [], false, []⟩

def urlCells (u : UrlM) : List Value := [strL u.sch, strL u.usr, strL u.pas, strL u.hos, .int .i64 u.prt, strL u.pth, .bool u.hq, strL u.qry, .bool u.hf, strL u.frg]

def urlV (u : UrlM) : Value := .agg (urlCells u).toArray

def httpL : List UInt8 := [104, 116, 116, 112]

def wsL : List UInt8 := [119, 115]

def httpsL : List UInt8 := [104, 116, 116, 112, 115]

def wssL : List UInt8 := [119, 115, 115]

def ftpL : List UInt8 := [102, 116, 112]

/-- A scheme's port. -/
def defP (s : List UInt8) : Int × Bool :=
  if s = httpL ∨ s = wsL then (80, true) else if s = httpsL ∨ s = wssL then (443, true) else if s = ftpL then (21, true) else (0, false)

def portU (u : UrlM) : Int := if u.prt = -1 then (defP u.sch).1 else u.prt

/-! cleaning -/
def lowC (c : UInt8) : Bool := decide (c.toNat ≤ 32)

def brkC (c : UInt8) : Bool := c == 9 || c == 10 || c == 13

def trimC (l : List UInt8) : List UInt8 := ((l.dropWhile lowC).reverse.dropWhile lowC).reverse

def cleanL (l : List UInt8) : List UInt8 := (trimC l).filter (fun c => !brkC c)

/-! up to the first of some bytes -/
def upL (of l : List UInt8) : List UInt8 := l.takeWhile (fun c => !hasB of c)

def fromL (of l : List UInt8) : List UInt8 := l.dropWhile (fun c => !hasB of c)

theorem up_from (of l : List UInt8) : upL of l ++ fromL of l = l := List.takeWhile_append_dropWhile

theorem up_nil (of : List UInt8) : upL of [] = [] := rfl

theorem from_nil (of : List UInt8) : fromL of [] = [] := rfl

theorem up_hit {of : List UInt8} {c : UInt8} (h : hasB of c = true) (l : List UInt8) : upL of (c :: l) = [] := by simp [upL, h]

theorem from_hit {of : List UInt8} {c : UInt8} (h : hasB of c = true) (l : List UInt8) : fromL of (c :: l) = c :: l := by simp [fromL, h]

theorem up_miss {of : List UInt8} {c : UInt8} (h : hasB of c = false) (l : List UInt8) : upL of (c :: l) = c :: upL of l := by simp [upL, h]

theorem from_miss {of : List UInt8} {c : UInt8} (h : hasB of c = false) (l : List UInt8) : fromL of (c :: l) = fromL of l := by simp [fromL, h]

theorem up_pre {of : List UInt8} : ∀ {p : List UInt8}, (∀ c ∈ p, hasB of c = false) → ∀ r, upL of (p ++ r) = p ++ upL of r
  | [], _, _ => rfl
  | c :: p, h, r => by
    rw [List.cons_append, up_miss (h c (by simp)), up_pre (fun x hx => h x (by simp [hx])) r]
    rfl

theorem from_pre {of : List UInt8} : ∀ {p : List UInt8}, (∀ c ∈ p, hasB of c = false) → ∀ r, fromL of (p ++ r) = fromL of r
  | [], _, _ => rfl
  | c :: p, h, r => by
    rw [List.cons_append, from_miss (h c (by simp)), from_pre (fun x hx => h x (by simp [hx])) r]

theorem up_all {of p : List UInt8} (h : ∀ c ∈ p, hasB of c = false) : upL of p = p := by
  have := up_pre h []
  rwa [List.append_nil, up_nil, List.append_nil] at this

theorem from_all {of p : List UInt8} (h : ∀ c ∈ p, hasB of c = false) : fromL of p = [] := by
  have := from_pre h []
  rwa [List.append_nil, from_nil] at this

theorem from_head (of : List UInt8) : ∀ (l : List UInt8), fromL of l = [] ∨ ∃ c r, fromL of l = c :: r ∧ hasB of c = true
  | [] => .inl rfl
  | x :: l => by
    cases hx : hasB of x
    · rw [from_miss hx]
      exact from_head of l
    · rw [from_hit hx]
      exact .inr ⟨x, l, rfl, hx⟩

theorem up_len (of l : List UInt8) : (upL of l).length ≤ l.length := by have := congrArg List.length (up_from of l); rw [List.length_append] at this; omega

theorem from_len (of l : List UInt8) : (fromL of l).length ≤ l.length := by have := congrArg List.length (up_from of l); rw [List.length_append] at this; omega

theorem has_one (a c : UInt8) : hasB [a] c = (c == a) := by rw [Bool.eq_iff_iff]; simp [hasB]

/-! the last @ -/
def lastAtL (l : List UInt8) : Option (List UInt8 × List UInt8) :=
  if hasB l 64 then some (((l.reverse.dropWhile (fun c => !(c == 64))).drop 1).reverse, (l.reverse.takeWhile (fun c => !(c == 64))).reverse) else none

theorem lastAt_none {l : List UInt8} (h : (64 : UInt8) ∉ l) : lastAtL l = none := by
  unfold lastAtL
  rw [if_neg (by simp [hasB, h])]

theorem lastAt_some (a : List UInt8) {b : List UInt8} (h : (64 : UInt8) ∉ b) : lastAtL (a ++ 64 :: b) = some (a, b) := by
  unfold lastAtL
  rw [if_pos (by simp [hasB])]
  have e : (a ++ 64 :: b).reverse = b.reverse ++ 64 :: a.reverse := by simp
  have h2 : ∀ c ∈ b.reverse, (!(c == (64 : UInt8))) = true := by
    intro c hc
    rw [Bool.not_eq_true', beq_eq_false_iff_ne]
    rintro rfl
    exact h (by simpa using hc)
  rw [e, List.dropWhile_append_of_pos h2, List.takeWhile_append_of_pos h2]
  simp

/-! the authority -/
def portP (sch d : List UInt8) : Option Int :=
  if d = [] then some (-1) else if allD 10 d = true ∧ valD 10 d ≤ 65535 then some (if ((valD 10 d : Nat) : Int) = (defP sch).1 then -1 else (valD 10 d : Nat)) else none

structure AutM where
  usr : List UInt8
  pas : List UInt8
  hos : List UInt8
  prt : Int

def userP (a : List UInt8) : List UInt8 × List UInt8 := (encL 4 (upL [58] a), encL 4 ((fromL [58] a).drop 1))

/-- The host and the port. -/
def placeP (sch l : List UInt8) : Option (List UInt8 × Int) := (hostP (upL [58] l)).bind fun h => (portP sch ((fromL [58] l).drop 1)).map fun p => (h, p)

def authP (sch l : List UInt8) : Option AutM :=
  match lastAtL l with
  | none => (placeP sch l).map fun x => ⟨[], [], x.1, x.2⟩
  | some (a, b) => (placeP sch b).map fun x => ⟨(userP a).1, (userP a).2, x.1, x.2⟩

/-! the path -/
def dotsP (s : List UInt8) : Nat := if decL s = [46] then 1 else if decL s = [46, 46] then 2 else 0

def resGo (acc : List (List UInt8)) : List (List UInt8) → List (List UInt8)
  | [] => acc
  | s :: r => if dotsP s = 0 then resGo (acc ++ [encL 3 s]) r else resGo ((if dotsP s = 2 then acc.dropLast else acc) ++ (if r = [] then [[]] else [])) r

def slB (c : UInt8) : UInt8 := if c = 92 then 47 else c

def segsL (p : List UInt8) : List (List UInt8) := splitL (Lib.trimPrefix (p.map slB) [47]) 47

def pathP (p : List UInt8) : List UInt8 := 47 :: Lib.join (resGo [] (segsL p)) [47]

/-! query and fragment -/
def queryP (r : List UInt8) : Bool × List UInt8 × List UInt8 := if r.head? = some 63 then (true, encL 2 (upL [35] (r.drop 1)), fromL [35] (r.drop 1)) else (false, [], r)

def fragP (r : List UInt8) : Bool × List UInt8 := if r.head? = some 35 then (true, encL 1 (r.drop 1)) else (false, [])

/-! all of it -/
def authE : List UInt8 := [47, 92, 63, 35]

def pathE : List UInt8 := [63, 35]

def skipL (l : List UInt8) : List UInt8 := l.dropWhile (fun c => hasB [47, 92] c)

/-- The scheme, and what is left behind it. -/
def schemeP (t : List UInt8) : Option (List UInt8 × List UInt8) :=
  if (defP (lowL (upL [58] t))).2 = true ∧ fromL [58] t ≠ [] then some (lowL (upL [58] t), skipL ((fromL [58] t).drop 1)) else none

def tailP (sch : List UInt8) (a : AutM) (r : List UInt8) : UrlM :=
  ⟨sch, a.usr, a.pas, a.hos, a.prt, pathP (upL pathE r), (queryP (fromL pathE r)).1, (queryP (fromL pathE r)).2.1, (fragP (queryP (fromL pathE r)).2.2).1, (fragP (queryP (fromL pathE r)).2.2).2⟩

def bodyP (t : List UInt8) : Option UrlM :=
  (schemeP t).bind fun s => (authP s.1 (upL authE s.2)).map fun a => tailP s.1 a (fromL authE s.2)

def urlP (s : List UInt8) : Option UrlM := if s.length ≤ 65536 ∧ Lib.validD s = true then bodyP (cleanL s) else none

def urlE (o : Option UrlM) : Int := if o.isSome then 0 else 8

/-! what is written -/
def markL (b : Bool) (m p : List UInt8) : List UInt8 := if b then m ++ p else []

def userL2 (u : UrlM) : List UInt8 := if u.usr = [] ∧ u.pas = [] then [] else u.usr ++ markL (decide (u.pas ≠ [])) [58] u.pas ++ [64]

def textU (u : UrlM) : List UInt8 := u.sch ++ [58, 47, 47] ++ userL2 u ++ u.hos ++ markL (decide (u.prt ≠ -1)) [58] (Lib.itoa u.prt) ++ u.pth ++ markL u.hq [63] u.qry ++ markL u.hf [35] u.frg

def asciiB (s : ByteArray) : Prop := ∀ b ∈ s.data.toList, b.toNat < 128

theorem strL_drop (t : ByteArray) (i : Nat) : strL (t.data.toList.drop i) = .string (t.extract i t.size) := strL_of (by rw [extract_list, List.take_of_length_le (by rw [size_data]; exact Nat.le_refl _)])

theorem rw_store {w : World} {g : Nat} {T : TypeId} {xs : List Value} (h : Rw w 0 g T xs) (j : Nat) (u : Value) {F : Nat → Prop} {w0 : World} (hk : Kept F w0 w) (hF : F g) : Rw (w.setCell ⟨g, j, none⟩ u) 0 g T (xs.set j u) ∧ Kept F w0 (w.setCell ⟨g, j, none⟩ u) :=
  ⟨Rw.stored h j u, kept_put hk (.inl hF) j u⟩

def RestV (w w' : World) (g : Nat) (T : TypeId) (cs : List Value) (l : List UInt8) : Prop := Rw w' 0 g T (strL l :: cs) ∧ Kept (fun k => k = g) w w'

end Go.Proofs.YtnecjofgjbfheaaGreatDoor
