/- URLs in plain words: what is cleaned off, the scheme, the authority, the path, the query, the fragment; what is written of a URL. -/
import Derived.Lib.MapLaws
import Derived.Lib.ValidLaws
import Derived.Lib.LastIndexByte
import Derived.Lib.SlTrimSet
import Derived.Lib.TrimByte
import Derived.Lib.Join
import Derived.Test.YtdgmcpdphifmbaaGreatDoorShelf
import Derived.Test.YtdgmcpdphifmbaaGreatDoorVshelf
import Derived.Laws.RangeAny
import Derived.Laws.Runes
import Derived.BigQuiet
import Derived.BigRegion
import Derived.Lib.Small
import Derived.WalkMore
import Derived.Lib.OthersKept
import Derived.Lib.TrimUEq
import Derived.Test.YtdgmcpdphifmbaaGreatDoorProg
import Derived.Test.YtdgmcpdphifmbaaGreatDoorKit
import Derived.Test.YtdgmcpdphifmbaaGreatDoorPlain
import Derived.Test.YtdgmcpdphifmbaaGreatDoorAsc1
import Derived.Test.YtdgmcpdphifmbaaGreatDoorAsc4
import Derived.Test.YtdgmcpdphifmbaaGreatDoorRow
import Derived.Test.YtdgmcpdphifmbaaGreatDoorFp
import Derived.Test.YtdgmcpdphifmbaaGreatDoorPct0
import Derived.Test.YtdgmcpdphifmbaaGreatDoorHst0
namespace Go.Proofs.YtdgmcpdphifmbaaGreatDoor
open Go.RowKit
open Go.RowKit Go.Proofs
set_option maxRecDepth 100000

structure UrlM where
  sch : List UInt8
  usr : List UInt8
  pas : List UInt8
  hos : List UInt8
  prt : Int
  pth : List UInt8
  hq : Bool
  qry : List UInt8
  hf : Bool
  frg : List UInt8

def urlZ : UrlM := ⟨[], [], [], [], 0, [], false, [], false, []⟩

def urlCells (u : UrlM) : List Value := [strL u.sch, strL u.usr, strL u.pas, strL u.hos, .int .i64 u.prt, strL u.pth, .bool u.hq, strL u.qry, .bool u.hf, strL u.frg]

def urlV (u : UrlM) : Value := .agg (urlCells u).toArray

def httpL : List UInt8 := [104, 116, 116, 112]

def wsL : List UInt8 := [119, 115]

def httpsL : List UInt8 := [104, 116, 116, 112, 115]

def wssL : List UInt8 := [119, 115, 115]

def ftpL : List UInt8 := [102, 116, 112]

/-- A scheme's port. -/
def defP (s : List UInt8) : Int × Bool :=
  if s = httpL ∨ s = wsL then (80, true) else if s = httpsL ∨ s = wssL then (443, true) else if s = ftpL then (21, true) else (0, false)

def portU (u : UrlM) : Int := if u.prt = -1 then (defP u.sch).1 else u.prt

/-! cleaning -/
def lowC (c : UInt8) : Bool := decide (c.toNat ≤ 32)

def brkC (c : UInt8) : Bool := c == 9 || c == 10 || c == 13

def trimC (l : List UInt8) : List UInt8 := ((l.dropWhile lowC).reverse.dropWhile lowC).reverse

def cleanL (l : List UInt8) : List UInt8 := (trimC l).filter (fun c => !brkC c)

/-! up to the first of some bytes -/
def upL (of l : List UInt8) : List UInt8 := l.takeWhile (fun c => !hasB of c)

def fromL (of l : List UInt8) : List UInt8 := l.dropWhile (fun c => !hasB of c)

theorem up_from (of l : List UInt8) : upL of l ++ fromL of l = l := List.takeWhile_append_dropWhile

theorem up_nil (of : List UInt8) : upL of [] = [] := rfl

theorem from_nil (of : List UInt8) : fromL of [] = [] := rfl

theorem up_hit {of : List UInt8} {c : UInt8} (h : hasB of c = true) (l : List UInt8) : upL of (c :: l) = [] := by simp [upL, h]

theorem from_hit {of : List UInt8} {c : UInt8} (h : hasB of c = true) (l : List UInt8) : fromL of (c :: l) = c :: l := by simp [fromL, h]

theorem up_miss {of : List UInt8} {c : UInt8} (h : hasB of c = false) (l : List UInt8) : upL of (c :: l) = c :: upL of l := by simp [upL, h]

theorem from_miss {of : List UInt8} {c : UInt8} (h : hasB of c = false) (l : List UInt8) : fromL of (c :: l) = fromL of l := by simp [fromL, h]

theorem up_pre {of : List UInt8} : ∀ {p : List UInt8}, (∀ c ∈ p, hasB of c = false) → ∀ r, upL of (p ++ r) = p ++ upL of r
  | [], _, _ => rfl
  | c :: p, h, r => by
    rw [List.cons_append, up_miss (h c (by simp)), up_pre (fun x hx => h x (by simp [hx])) r]
    rfl

theorem from_pre {of : List UInt8} : ∀ {p : List UInt8}, (∀ c ∈ p, hasB of c = false) → ∀ r, fromL of (p ++ r) = fromL of r
  | [], _, _ => rfl
  | c :: p, h, r => by
    rw [List.cons_append, from_miss (h c (by simp)), from_pre (fun x hx => h x (by simp [hx])) r]

theorem from_head (of : List UInt8) : ∀ (l : List UInt8), fromL of l = [] ∨ ∃ c r, fromL of l = c :: r ∧ hasB of c = true
  | [] => .inl rfl
  | x :: l => by
    cases hx : hasB of x
    · rw [from_miss hx]
      exact from_head of l
    · rw [from_hit hx]
      exact .inr ⟨x, l, rfl, hx⟩

theorem up_len (of l : List UInt8) : (upL of l).length ≤ l.length := by have := congrArg List.length (up_from of l); rw [List.length_append] at this; omega

theorem from_len (of l : List UInt8) : (fromL of l).length ≤ l.length := by have := congrArg List.length (up_from of l); rw [List.length_append] at this; omega

theorem has_one (a c : UInt8) : hasB [a] c = (c == a) := by rw [Bool.eq_iff_iff]; simp [hasB]

/-- By places. -/
theorem up_index (of : List UInt8) : ∀ (l : List UInt8), (Lib.indexAny l of = -1 ∧ upL of l = l ∧ fromL of l = []) ∨ (∃ i : Nat, Lib.indexAny l of = i ∧ i < l.length ∧ upL of l = l.take i ∧ fromL of l = l.drop i)
  | [] => .inl ⟨rfl, rfl, rfl⟩
  | x :: l => by
    cases hx : hasB of x
    · rw [up_miss hx, from_miss hx]
      have hc : of.contains x = false := hx
      rcases up_index of l with ⟨h1, h2, h3⟩ | ⟨i, h1, h2, h3, h4⟩
      · left
        rw [h2, h3]
        refine ⟨?_, rfl, rfl⟩
        rw [Lib.indexAny, hc, h1]
        rfl
      · right
        refine ⟨i + 1, ?_, by simp; omega, by rw [h3]; rfl, by rw [h4]; rfl⟩
        rw [Lib.indexAny, hc, h1]
        have : ((i : Int) == -1) = false := beq_eq_false_iff_ne.2 (by omega)
        simp [this]
    · right
      rw [up_hit hx, from_hit hx]
      have hc : of.contains x = true := hx
      refine ⟨0, ?_, by simp, rfl, rfl⟩
      rw [Lib.indexAny, hc]
      rfl

theorem cut_one (l : List UInt8) (c : UInt8) : (Lib.cut l [c]).1 = upL [c] l ∧ (Lib.cut l [c]).2.1 = (fromL [c] l).drop 1 := by
  unfold Lib.cut
  rw [Lib.index_one, ← Lib.indexAny_one]
  rcases up_index [c] l with ⟨h1, h2, h3⟩ | ⟨i, h1, h2, h3, h4⟩
  · rw [h1, h2, h3]
    exact ⟨rfl, rfl⟩
  · rw [h1, if_pos (by omega), h3, h4]
    exact ⟨by simp, by simp⟩

/-! the last @ -/
def lastAtL (l : List UInt8) : Option (List UInt8 × List UInt8) :=
  if hasB l 64 then some (((l.reverse.dropWhile (fun c => !(c == 64))).drop 1).reverse, (l.reverse.takeWhile (fun c => !(c == 64))).reverse) else none

theorem lastAt_none {l : List UInt8} (h : (64 : UInt8) ∉ l) : lastAtL l = none := by
  unfold lastAtL
  rw [if_neg (by simp [hasB, h])]

theorem lastAt_some (a : List UInt8) {b : List UInt8} (h : (64 : UInt8) ∉ b) : lastAtL (a ++ 64 :: b) = some (a, b) := by
  unfold lastAtL
  rw [if_pos (by simp [hasB])]
  have e : (a ++ 64 :: b).reverse = b.reverse ++ 64 :: a.reverse := by simp
  have h2 : ∀ c ∈ b.reverse, (!(c == (64 : UInt8))) = true := by
    intro c hc
    rw [Bool.not_eq_true', beq_eq_false_iff_ne]
    rintro rfl
    exact h (by simpa using hc)
  rw [e, List.dropWhile_append_of_pos h2, List.takeWhile_append_of_pos h2]
  simp

/-! the authority -/
def portP (sch d : List UInt8) : Option Int :=
  if d = [] then some (-1) else if allD 10 d = true ∧ valD 10 d ≤ 65535 then some (if ((valD 10 d : Nat) : Int) = (defP sch).1 then -1 else (valD 10 d : Nat)) else none

structure AutM where
  usr : List UInt8
  pas : List UInt8
  hos : List UInt8
  prt : Int

def userP (a : List UInt8) : List UInt8 × List UInt8 := (encL 4 (upL [58] a), encL 4 ((fromL [58] a).drop 1))

/-- The host and the port. -/
def placeP (sch l : List UInt8) : Option (List UInt8 × Int) := (hostP (upL [58] l)).bind fun h => (portP sch ((fromL [58] l).drop 1)).map fun p => (h, p)

def authP (sch l : List UInt8) : Option AutM :=
  match lastAtL l with
  | none => (placeP sch l).map fun x => ⟨[], [], x.1, x.2⟩
  | some (a, b) => (placeP sch b).map fun x => ⟨(userP a).1, (userP a).2, x.1, x.2⟩

/-! the path -/
def dotsP (s : List UInt8) : Nat := if decL s = [46] then 1 else if decL s = [46, 46] then 2 else 0

def resGo (acc : List (List UInt8)) : List (List UInt8) → List (List UInt8)
  | [] => acc
  | s :: r => if dotsP s = 0 then resGo (acc ++ [encL 3 s]) r else resGo ((if dotsP s = 2 then acc.dropLast else acc) ++ (if r = [] then [[]] else [])) r

def slB (c : UInt8) : UInt8 := if c = 92 then 47 else c

def segsL (p : List UInt8) : List (List UInt8) := splitL (Lib.trimPrefix (p.map slB) [47]) 47

def pathP (p : List UInt8) : List UInt8 := 47 :: Lib.join (resGo [] (segsL p)) [47]

/-! query and fragment -/
def queryP (r : List UInt8) : Bool × List UInt8 × List UInt8 := if r.head? = some 63 then (true, encL 2 (upL [35] (r.drop 1)), fromL [35] (r.drop 1)) else (false, [], r)

def fragP (r : List UInt8) : Bool × List UInt8 := if r.head? = some 35 then (true, encL 1 (r.drop 1)) else (false, [])

/-! all of it -/
def authE : List UInt8 := [47, 92, 63, 35]

def pathE : List UInt8 := [63, 35]

def skipL (l : List UInt8) : List UInt8 := l.dropWhile (fun c => hasB [47, 92] c)

/-- The scheme, and what is left behind it. -/
def schemeP (t : List UInt8) : Option (List UInt8 × List UInt8) :=
  if (defP (lowL (upL [58] t))).2 = true ∧ fromL [58] t ≠ [] then some (lowL (upL [58] t), skipL ((fromL [58] t).drop 1)) else none

def tailP (sch : List UInt8) (a : AutM) (r : List UInt8) : UrlM :=
  ⟨sch, a.usr, a.pas, a.hos, a.prt, pathP (upL pathE r), (queryP (fromL pathE r)).1, (queryP (fromL pathE r)).2.1, (fragP (queryP (fromL pathE r)).2.2).1, (fragP (queryP (fromL pathE r)).2.2).2⟩

def bodyP (t : List UInt8) : Option UrlM :=
  (schemeP t).bind fun s => (authP s.1 (upL authE s.2)).map fun a => tailP s.1 a (fromL authE s.2)

def urlP (s : List UInt8) : Option UrlM := if s.length ≤ 65536 ∧ Lib.validD s = true then bodyP (cleanL s) else none

def urlE (o : Option UrlM) : Int := if o.isSome then 0 else 8

def asciiB (s : ByteArray) : Prop := ∀ b ∈ s.data.toList, b.toNat < 128

theorem ascii_at {s : ByteArray} (h : asciiB s) (i : Nat) (hi : i < s.size) : (s[i]'hi).toNat < 128 := by
  refine h _ ?_
  rw [Array.mem_toList_iff]
  exact Array.getElem_mem _

theorem ascii_byte_none {s : ByteArray} (h : asciiB s) (a : Nat) (c : UInt8) (hc : 128 ≤ c.toNat) : Lib.indexByte (s.extract a s.size).data.toList c = -1 := by
  have key : ∀ l : List UInt8, (∀ b ∈ l, b.toNat < 128) → Lib.indexByte l c = -1 := by
    intro l
    induction l with
    | nil => intro _; rfl
    | cons x l ih =>
      intro hl
      have hx : (x == c) = false := by
        rw [beq_eq_false_iff_ne]
        rintro rfl
        have := hl x (by simp)
        omega
      rw [Lib.indexByte, hx, ih (fun b hb => hl b (by simp [hb]))]
      rfl
  exact key _ (fun b hb => h b (mem_extract hb))

set_option maxHeartbeats 1000000 in
theorem irune_err (s : ByteArray) (ha : asciiB s) (w : World) :
    Calls Tryz.prog 121 #[.string s, .int .i32 65533] w fun e w' => e = .returned (.int .i64 (-1)) ∧ Below w.heap.size w w' := by
  have HA := Lib.hid ha
  clear ha
  go_enter Tryz.func121, Tryz.ntmps121
  go_wp2
  go_loopg [5, 6] s.size (fun g _ _ wx => ∃ i : Nat, i + g = s.size ∧ wx = w.iter s i)
  case atStart => exact ⟨0, by omega, rfl⟩
  case round =>
    obtain ⟨i, hig, rfl⟩ := hrel
    cases gk with
    | zero =>
      obtain rfl : i = s.size := by omega
      have hnx := run_next_end (P := Tryz.prog) w s s.size
      go_wp2
      go_ret
      exact ⟨rfl, below_more (Below.refl _ _) _⟩
    | succ g =>
      have hi : i < s.size := by omega
      obtain ⟨x, hx⟩ : ∃ x : UInt8, s[i]'hi = x := ⟨_, rfl⟩
      have hx128 : x.toNat < 128 := by rw [← hx]; exact ascii_at HA.out i hi
      have hnx := fun ty => run_next_ascii (P := Tryz.prog) w s i ty hi (by rw [hx]; exact hx128)
      rw [hx] at hnx
      have hne : ((x.toNat : Int) == 65533) = false := beq_eq_false_iff_ne.2 (by omega)
      clear hx
      go_wp2
      go_roundg g
      case measure => omega
      case rel => exact ⟨i + 1, by omega, rfl⟩

theorem irune_bad (s : ByteArray) (r : Int) (h0 : 128 ≤ r) (h1 : r ≤ 2147483647) (hr : r ≠ 65533) (hv : Lib.validRune r = false) (w : World) :
    Calls Tryz.prog 121 #[.string s, .int .i32 r] w fun e w' => e = .returned (.int .i64 (-1)) ∧ Below w.heap.size w w' := by
  have HV := Lib.hid (fun W => Tryz.utf8_ValidRune r W)
  rw [hv] at HV
  have hn : (r == 65533) = false := beq_eq_false_iff_ne.2 hr
  have h2 : ¬ r < 128 := by omega
  have h3 : (0 : Int) ≤ r := by omega
  clear hv hr
  go_enter Tryz.func121, Tryz.ntmps121
  go_wp2_with fail
  refine (HV.out _).mono ?_
  rintro e w1 ⟨rfl, rfl⟩
  go_wp2
  go_ret
  exact ⟨rfl, Below.refl _ _⟩

set_option maxHeartbeats 1000000 in
theorem irune_good (s : ByteArray) (ha : asciiB s) (_h4 : s.size ≤ 8) (r : Int) (h0 : 128 ≤ r) (h1 : r ≤ 2147483647) (hr : r ≠ 65533) (hv : Lib.validRune r = true) (w : World) :
    Calls Tryz.prog 121 #[.string s, .int .i32 r] w fun e w' => e = .returned (.int .i64 (-1)) ∧ Below w.heap.size w w' := by
  have HV := Lib.hid (fun W => Tryz.utf8_ValidRune r W)
  rw [hv] at HV
  have hn : (r == 65533) = false := beq_eq_false_iff_ne.2 hr
  have h2 : ¬ r < 128 := by omega
  have h3 : (0 : Int) ≤ r := by omega
  obtain ⟨e1, e2, e3⟩ := encode_facts r (by rw [validRune_eq]; exact hv) h0
  obtain ⟨t, ht⟩ : ∃ t, t = Utf8.encode r := ⟨_, rfl⟩
  have hcv := fun W => run_convert_int_string (P := Tryz.prog) W 21 9 .i32 r (by kernel_rfl) Tryz.underlying9
  rw [← ht] at hcv e1 e2 e3
  obtain ⟨k, hk⟩ : ∃ k, t.size = k + 1 := ⟨t.size - 1, by omega⟩
  have hlt : k < t.size := by omega
  obtain ⟨c, hc⟩ : ∃ c : UInt8, t[k]'hlt = c := ⟨_, rfl⟩
  have hc128 : 128 ≤ c.toNat := by
    have h5 : t.size - 1 = k := by omega
    have := e3 (by omega)
    rw [← hc]
    simpa [h5] using this
  have hks : k ≤ 3 := by omega
  have hsz : (t.size : Int) = (k : Int) + 1 := by omega
  clear e1 e2 e3 hv hr ht
  by_cases hlt2 : k < s.size
  · have hne : ((s[k]'hlt2).toNat : Int) ≠ (c.toNat : Int) := by
      have := ascii_at ha k hlt2
      omega
    obtain ⟨x, hx⟩ : ∃ x : UInt8, s[k]'hlt2 = x := ⟨_, rfl⟩
    rw [hx] at hne
    have hneb : ((x.toNat : Int) == (c.toNat : Int)) = false := beq_eq_false_iff_ne.2 hne
    have hib := ascii_byte_none ha (k + 1) c hc128
    have HI := Lib.hid (fun W => Tryz.strings_IndexByte (s.extract (k + 1) s.size) (c.toNat : Int) W)
    rw [show ((c.toNat : Int)).toNat.toUInt8 = c by simp, hib] at HI
    clear hib ha hne
    have hki : (k : Int) < (s.size : Int) := by omega
    have hkt : (k : Int) < (t.size : Int) := by omega
    have hki2 : (k : Int) + 1 ≤ (s.size : Int) := by omega
    have hki3 : (0 : Int) ≤ (k : Int) + 1 := by omega
    have hkn : ((k : Int) + 1).toNat = k + 1 := by omega
    have hk1 : (k : Int) < (k : Int) + 1 := by omega
    have hkw : IntKind.i64.wrap ((k : Int) + 1) = (k : Int) + 1 := wrap_small _ hki3 (by omega)
    go_enter Tryz.func121, Tryz.ntmps121
    go_wp2_with fail
    refine (HV.out _).mono ?_
    rintro e w1 ⟨rfl, rfl⟩
    go_wp2_with fail
    refine wp_scope_straight ?_
    go_wp2_with fail
    refine wp_loop_once ?_
    go_wp2_with fail
    refine wp_scope_straight ?_
    go_wp2_with fail
    go_quiet (fail)
    obtain ⟨wq, hwq⟩ : ∃ wq, wq = w1.drewN nq := ⟨_, rfl⟩
    rw [← hwq]
    have HWQ : Hid (Below w1.heap.size w1 wq) := Lib.hid (below_draws (Below.refl _ _) ⟨nq, hwq⟩)
    clear hwq
    go_wp2_with fail
    go_quiet ((go_at_call 102; exact Calls.quiet_of_same (HI.out _)))
    go_wp2_with fail
    simp (config := {zetaDelta := true}) only [Exit.inBlock, Exit.then, Exit.noGoto]
    go_ret
    exact ⟨rfl, below_draws HWQ.out ⟨_, rfl⟩⟩
  · have hki : ¬ (k : Int) < (s.size : Int) := by omega
    clear ha
    go_enter Tryz.func121, Tryz.ntmps121
    go_wp2_with fail
    refine (HV.out _).mono ?_
    rintro e w1 ⟨rfl, rfl⟩
    go_wp2_with fail
    refine wp_scope_straight ?_
    go_wp2_with fail
    refine wp_loop_once ?_
    go_wp2_with fail
    rw [Exit.noGoto_ret]
    go_ret
    exact ⟨rfl, Below.refl _ _⟩

theorem irune_high (s : ByteArray) (ha : asciiB s) (h4 : s.size ≤ 8) (r : Int) (h0 : 128 ≤ r) (h1 : r ≤ 2147483647) (w : World) :
    Calls Tryz.prog 121 #[.string s, .int .i32 r] w fun e w' => e = .returned (.int .i64 (-1)) ∧ Below w.heap.size w w' := by
  by_cases hr : r = 65533
  · subst hr
    exact irune_err s ha w
  · cases hv : Lib.validRune r
    · exact irune_bad s r h0 h1 hr hv w
    · exact irune_good s ha h4 r h0 h1 hr hv w

/-! a rune's bytes -/
set_option maxRecDepth 100000 in
theorem decodeN_bytes (n b0 b1 b2 b3 : Nat) (h : 128 ≤ b0) (hn : 0 < n) : (Lib.decodeN n b0 b1 b2 b3).2 ≤ n ∧ (Lib.decodeN n b0 b1 b2 b3).2 ≤ 4 ∧ (1 < (Lib.decodeN n b0 b1 b2 b3).2 → 128 ≤ b1) ∧ (2 < (Lib.decodeN n b0 b1 b2 b3).2 → 128 ≤ b2) ∧ (3 < (Lib.decodeN n b0 b1 b2 b3).2 → 128 ≤ b3) := by
  unfold Lib.decodeN
  repeat' split
  all_goals simp only
  all_goals omega

/-- The bytes of a rune that begins with one from 128 on are from 128 on, and lie within. -/
theorem decode_bytes (s : ByteArray) (i : Nat) (hi : i < s.size) (h : 128 ≤ (s.data.toList.getD i 0).toNat) : i + (Utf8.decode s i).2 ≤ s.size ∧ ∀ j, i ≤ j → j < i + (Utf8.decode s i).2 → 128 ≤ (s.data.toList.getD j 0).toNat := by
  rw [Lib.decode_N]
  have hl : s.data.toList.length = s.size := (Lib.size_eq s).symm
  obtain ⟨h1, h2, h3, h4, h5⟩ := decodeN_bytes (s.data.toList.length - i) (s.data.toList.getD i 0).toNat (s.data.toList.getD (i + 1) 0).toNat (s.data.toList.getD (i + 2) 0).toNat (s.data.toList.getD (i + 3) 0).toNat h (by omega)
  obtain ⟨K, hK⟩ : ∃ K, (Lib.decodeN (s.data.toList.length - i) (s.data.toList.getD i 0).toNat (s.data.toList.getD (i + 1) 0).toNat (s.data.toList.getD (i + 2) 0).toNat (s.data.toList.getD (i + 3) 0).toNat).2 = K := ⟨_, rfl⟩
  rw [hK] at h1 h2 h3 h4 h5 ⊢
  refine ⟨by omega, fun j hj hj2 => ?_⟩
  rcases (by omega : j = i ∨ j = i + 1 ∨ j = i + 2 ∨ j = i + 3) with rfl | rfl | rfl | rfl
  · exact h
  · exact h3 (by omega)
  · exact h4 (by omega)
  · exact h5 (by omega)

theorem getD_here (s : ByteArray) (i : Nat) (hi : i < s.size) : s.data.toList.getD i 0 = s[i]'hi := by
  rw [List.getD_eq_getElem?_getD, Lib.data_getElem? s i hi]
  rfl

theorem noAny_run {s of : List UInt8} (ho : ∀ b ∈ of, b.toNat < 128) {i k : Nat} (h : Lib.NoAny s of i) (hh : ∀ j, i ≤ j → j < i + k → 128 ≤ (s.getD j 0).toNat) : Lib.NoAny s of (i + k) := by
  intro j b hj hb
  by_cases hji : j < i
  · exact h j b hji hb
  · have h2 := hh j (by omega) hj
    rw [List.getD_eq_getElem?_getD, hb] at h2
    rw [Bool.eq_false_iff]
    intro hc
    have := ho b (by simpa using hc)
    simp at h2
    omega

set_option maxHeartbeats 1000000 in
theorem iany_short (s of : ByteArray) (ho : asciiB of) (h2 : 2 ≤ of.size) (h4 : of.size ≤ 8) (h8 : s.size ≤ 8) (w : World) :
    Calls Tryz.prog 89 #[.string s, .string of] w fun e w' => e = .returned (.int .i64 (Lib.indexAny s.data.toList of.data.toList)) ∧ Below w.heap.size w w' := by
  have hemp : of.toList.isEmpty = false := by
    rw [Lib.toList_data]
    cases h : of.data.toList with
    | nil => have := Lib.size_eq of; rw [h, List.length_nil] at this; omega
    | cons _ _ => rfl
  have hn1 : ((of.size : Int) == 1) = false := beq_eq_false_iff_ne.2 (by omega)
  have HS := Lib.hid (fun W => Tryz.strings_shouldUseASCIISet (s.size : Int) W)
  rw [decide_eq_false (show ¬ (8 : Int) < (s.size : Int) by omega)] at HS
  have HO := Lib.hid ho
  have hs8 := h8
  clear ho h2 h8
  go_enter Tryz.func89, Tryz.ntmps89
  go_wp2_with fail
  refine (HS.out _).mono ?_
  rintro e w1 ⟨rfl, rfl⟩
  go_wp2
  go_loopg [9, 10] s.size (fun g _ _ wx => ∃ i : Nat, i ≤ s.size ∧ s.size ≤ i + g ∧ wx.heap[w1.heap.size]? = some (.stringIter s i) ∧ Hid (Below w1.heap.size w1 wx) ∧ Hid (Lib.NoAny s.data.toList of.data.toList i))
  case atStart => exact ⟨0, by omega, by omega, World.iter_heap _ _ _, Lib.hid (below_more (Below.refl _ _) _), Lib.hid (Lib.NoAny.zero _ _)⟩
  case round =>
    obtain ⟨i, his, hig, hit, HB, HN⟩ := hrel
    obtain ⟨wy, hwy⟩ : ∃ wy, wy = wr := ⟨_, rfl⟩
    subst hwy
    by_cases hi : i < s.size
    · have hnx := fun ty => Lib.run_next_any_at (P := Tryz.prog) wy w1.heap.size s i ty hit hi
      obtain ⟨g, rfl⟩ : ∃ g, gk = g + 1 := ⟨gk - 1, by omega⟩
      have HIT := Lib.hid (Lib.iterAt_heap wy w1.heap.size s i (i + (Utf8.decode s i).2) hit)
      have HBI := Lib.hid (Lib.below_iterAt HB.out (Nat.le_refl _) s (i + (Utf8.decode s i).2))
      obtain ⟨wz, hwz⟩ : ∃ wz, wz = wy.iterAt w1.heap.size s (i + (Utf8.decode s i).2) := ⟨_, rfl⟩
      rw [← hwz] at hnx HIT HBI
      clear hit hwz
      by_cases ha : (s[i]'hi).toNat < 128
      · rw [decode_ascii s i hi ha] at hnx HIT
        obtain ⟨x, hx⟩ : ∃ x : UInt8, s[i]'hi = x := ⟨_, rfl⟩
        rw [hx] at hnx ha
        have Hx : Hid (s.data.toList[i]? = some x) := Lib.hid (by rw [← hx]; exact Lib.data_getElem? s i hi)
        have HR := Lib.hid (fun W => Tryz.strings_IndexRune_ascii of (x.toNat : Int) W (by omega) (by omega))
        rw [show ((x.toNat : Int)).toNat.toUInt8 = x by simp] at HR
        have hcon := Lib.contains_iff_indexByte of.data.toList x
        clear hx
        cases hin : of.data.toList.contains x
        · rw [hin] at hcon
          have hlt : ¬ ((0 : Int) ≤ Lib.indexByte of.data.toList x) := of_decide_eq_false hcon.symm
          have HIN := Lib.hid hin
          clear hcon hin
          go_wp2_with fail
          refine (HR.out _).mono ?_
          rintro e w2 ⟨rfl, rfl⟩
          go_wp2
          go_roundg g
          case measure => omega
          case rel => exact ⟨i + 1, by omega, by omega, HIT.out, HBI, Lib.hid (HN.out.succ Hx.out HIN.out)⟩
        · rw [hin] at hcon
          have hlt : ((0 : Int) ≤ Lib.indexByte of.data.toList x) := of_decide_eq_true hcon.symm
          have HIN := Lib.hid hin
          clear hcon hin
          go_wp2_with fail
          refine (HR.out _).mono ?_
          rintro e w2 ⟨rfl, rfl⟩
          go_wp2
          go_ret
          exact ⟨ret_int (Lib.indexAny_hit HN.out Hx.out HIN.out).symm, HBI.out⟩
      · have hg := getD_here s i hi
        obtain ⟨d1, d2⟩ := decode_bytes s i hi (by rw [hg]; omega)
        have d3 := decode_high s i hi (by omega)
        have d4 := Lib.rune_le s i
        obtain ⟨r, hr⟩ : ∃ r, (Utf8.decode s i).1 = r := ⟨_, rfl⟩
        obtain ⟨k, hk⟩ : ∃ k, (Utf8.decode s i).2 = k := ⟨_, rfl⟩
        rw [hr] at hnx d3 d4
        rw [hk] at d1 d2 d3 HIT
        have HR := Lib.hid (fun W => irune_high of HO.out h4 (r : Int) (by omega) (by omega) W)
        have HN2 := Lib.hid (noAny_run HO.out HN.out d2)
        clear hr hk d2 hg
        go_wp2_with fail
        refine (HR.out _).mono ?_
        rintro e w2 ⟨rfl, hb2⟩
        have HB2 := Lib.hid (below_then HBI.out hb2)
        have HIT2 : Hid (w2.heap[w1.heap.size]? = some (.stringIter s (i + k))) := Lib.hid (by rw [hb2.block _ (by have := (Array.getElem?_eq_some_iff.1 HIT.out).1; exact this)]; exact HIT.out)
        clear hb2
        go_wp2
        go_roundg g
        case measure => omega
        case rel => exact ⟨i + k, by omega, by omega, HIT2.out, HB2, HN2⟩
    · have hnx := fun ty => Lib.run_next_end_at (P := Tryz.prog) wy w1.heap.size s i ty hit hi
      have HF : Hid (Lib.indexAny s.data.toList of.data.toList = -1) := Lib.hid (Lib.indexAny_none (by rw [← Lib.size_eq, show s.size = i by omega]; exact HN.out))
      clear hit
      go_wp2
      go_ret
      exact ⟨ret_int HF.out.symm, HB.out⟩

theorem Tryz.zero256 : ∀ w, (zeroValue 126).run Tryz.prog w = .ok (.agg (Array.replicate 256 (.bool false))) w := (zero_of_info (n := 256) (by kernel_rfl)).1

theorem iany_any (s of : ByteArray) (ho : asciiB of) (h1 : 1 ≤ of.size) (h4 : of.size ≤ 8) (hs : s.size ≤ 1073741824) (w : World) :
    Calls Tryz.prog 89 #[.string s, .string of] w fun e w' => e = .returned (.int .i64 (Lib.indexAny s.data.toList of.data.toList)) ∧ Below w.heap.size w w' := by
  have hac : ∀ (j : Nat) b, of.data.toList[j]? = some b → b.toNat < 128 := fun j b hj => ho b (List.mem_of_getElem? hj)
  by_cases h2 : of.size = 1
  · exact (Tryz.strings_IndexAny_one s of w h2 hac).mono fun e w' ⟨a, b⟩ => ⟨a, b ▸ Below.refl _ _⟩
  · by_cases h8 : s.size ≤ 8
    · exact iany_short s of ho (by omega) h4 h8 w
    · refine (Tryz.strings_IndexAny_long Tryz.zero256 s of w (by omega) (by omega) (by omega) (by omega) hac).mono fun e w' ⟨a, b⟩ => ⟨a, ?_⟩
      rw [b]
      exact below_more (below_more (Below.refl _ _) _) _

theorem strL_drop (t : ByteArray) (i : Nat) : strL (t.data.toList.drop i) = .string (t.extract i t.size) := strL_of (by rw [extract_list, List.take_of_length_le (by rw [size_data]; exact Nat.le_refl _)])

theorem rw_store {w : World} {g : Nat} {T : TypeId} {xs : List Value} (h : Rw w 0 g T xs) (j : Nat) (u : Value) {F : Nat → Prop} {w0 : World} (hk : Kept F w0 w) (hF : F g) : Rw (w.setCell ⟨g, j, none⟩ u) 0 g T (xs.set j u) ∧ Kept F w0 (w.setCell ⟨g, j, none⟩ u) :=
  ⟨Rw.stored h j u, kept_put hk (.inl hF) j u⟩

def RestV (w w' : World) (g : Nat) (T : TypeId) (cs : List Value) (l : List UInt8) : Prop := Rw w' 0 g T (strL l :: cs) ∧ Kept (fun k => k = g) w w'

set_option maxHeartbeats 1000000 in
theorem utake_any {w : World} {g : Nat} {T : TypeId} {cs : List Value} (s of : ByteArray) (hs : s.size ≤ 1073741824) (ho : asciiB of) (h1 : 1 ≤ of.size) (h4 : of.size ≤ 8) (h : Rw w 0 g T (.string s :: cs)) :
    Calls Tryz.prog 46 #[.pointer (some ⟨g, 0, none⟩), .string of] w fun e w' => e = .returned (strL (upL of.data.toList s.data.toList)) ∧ RestV w w' g T cs (fromL of.data.toList s.data.toList) := by
  have HI := Lib.hid (fun W => iany_any s of ho h1 h4 hs W)
  have HR := Lib.hid h
  have c0 := Rw.cell h (j := 0) rfl
  clear h ho h1 h4
  rcases up_index of.data.toList s.data.toList with ⟨hx, hu, hf⟩ | ⟨i, hx, hil, hu, hf⟩
  · rw [hx] at HI
    have HU := Lib.hid hu
    have HF := Lib.hid hf
    clear hx hu hf
    go_enter Tryz.func46, Tryz.ntmps46
    go_wp2_with fail
    refine (HI.out _).mono ?_
    rintro e w1 ⟨rfl, hb⟩
    have HR1 := Lib.hid (Rw.below HR.out hb)
    have HK1 := Lib.hid (kept_below (F := fun k => k = g) hb)
    have f1 := Rw.free HR1.out 0
    have c1 := Rw.cell HR1.out (j := 0) rfl
    clear hb
    have hss : (s.size : Int) ≤ (s.size : Int) := by omega
    go_wp2_with fail
    go_ret
    obtain ⟨r1, r2⟩ := rw_store HR1.out 0 (.string (s.extract s.size s.size)) HK1.out rfl
    refine ⟨?_, ?_⟩
    · rw [HU.out, strL_data]
      congr 2
      try (apply ByteArray.ext; simp)
    · rw [HF.out]
      refine ⟨?_, by first | exact r2 | simpa using r2⟩
      have e : (Value.string (s.extract s.size s.size)) = strL [] := by
        rw [← strL_drop, List.drop_of_length_le (by rw [size_data]; exact Nat.le_refl _)]
      rw [← e]
      first | exact r1 | simpa using r1
  · rw [hx] at HI
    have HU := Lib.hid hu
    have HF := Lib.hid hf
    rw [size_data] at hil
    clear hx hu hf
    have hi0 : ¬ (i : Int) < 0 := by omega
    have hi1 : (i : Int) ≤ (s.size : Int) := by omega
    have hi2 : (0 : Int) ≤ (i : Int) := by omega
    go_enter Tryz.func46, Tryz.ntmps46
    go_wp2_with fail
    refine (HI.out _).mono ?_
    rintro e w1 ⟨rfl, hb⟩
    have HR1 := Lib.hid (Rw.below HR.out hb)
    have HK1 := Lib.hid (kept_below (F := fun k => k = g) hb)
    have f1 := Rw.free HR1.out 0
    have c1 := Rw.cell HR1.out (j := 0) rfl
    clear hb
    go_wp2_with fail
    go_ret
    obtain ⟨r1, r2⟩ := rw_store HR1.out 0 (.string (s.extract i s.size)) HK1.out rfl
    refine ⟨?_, ?_⟩
    · rw [HU.out, strL_take]
      rfl
    · rw [HF.out]
      refine ⟨?_, by first | exact r2 | simpa using r2⟩
      rw [strL_drop]
      first | exact r1 | simpa using r1

theorem unext_no {w : World} {g : Nat} {T : TypeId} {cs : List Value} (s : ByteArray) (c : UInt8) (h : Rw w 0 g T (.string s :: cs)) (hn : s.data.toList.head? ≠ some c) :
    Calls Tryz.prog 48 #[.pointer (some ⟨g, 0, none⟩), .int .u8 c.toNat] w fun e w' => e = .returned (.bool false) ∧ w' = w := by
  have c0 := Rw.cell h (j := 0) rfl
  clear h
  by_cases h0 : s.size = 0
  · have he := emptyYes h0
    clear h0 hn
    go_enter Tryz.func48, Tryz.ntmps48
    go_wp2_with fail
    go_ret
    exact ⟨rfl, rfl⟩
  · have he := emptyNo h0
    have hp : 0 < s.size := by omega
    have hh := head_of s hp
    obtain ⟨x, hx⟩ : ∃ x : UInt8, s[0]'hp = x := ⟨_, rfl⟩
    rw [hx] at hh
    have hq : ((x.toNat : Int) == (c.toNat : Int)) = false := by
      rw [beq_eq_false_iff_ne]
      intro e
      apply hn
      rw [hh]
      congr 1
      exact UInt8.toNat_inj.1 (by omega)
    have hpi : (0 : Int) < (s.size : Int) := by omega
    clear hn hh h0
    go_enter Tryz.func48, Tryz.ntmps48
    go_wp2_with fail
    go_ret
    exact ⟨rfl, rfl⟩

theorem unext_yes {w : World} {g : Nat} {T : TypeId} {cs : List Value} (s : ByteArray) (c : UInt8) (h : Rw w 0 g T (.string s :: cs)) (hn : s.data.toList.head? = some c) :
    Calls Tryz.prog 48 #[.pointer (some ⟨g, 0, none⟩), .int .u8 c.toNat] w fun e w' => e = .returned (.bool true) ∧ RestV w w' g T cs (s.data.toList.drop 1) := by
  have c0 := Rw.cell h (j := 0) rfl
  have f0 := Rw.free h 0
  have HR := Lib.hid h
  clear h
  have hp : 0 < s.size := by
    rw [← size_data]
    cases hl : s.data.toList with
    | nil => rw [hl] at hn; simp at hn
    | cons _ _ => simp
  have hh := head_of s hp
  obtain ⟨x, hx⟩ : ∃ x : UInt8, s[0]'hp = x := ⟨_, rfl⟩
  rw [hx] at hh
  rw [hh] at hn
  injection hn with hn
  subst hn
  have he := emptyNo (show s.size ≠ 0 by omega)
  have hq : ((x.toNat : Int) == (x.toNat : Int)) = true := beq_iff_eq.2 rfl
  have hpi : (0 : Int) < (s.size : Int) := by omega
  have hpj : (1 : Int) ≤ (s.size : Int) := by omega
  clear hh
  go_enter Tryz.func48, Tryz.ntmps48
  go_wp2_with fail
  go_ret
  obtain ⟨r1, r2⟩ := rw_store HR.out 0 (.string (s.extract 1 s.size)) (kept_refl (fun k => k = g) w) rfl
  refine ⟨rfl, ?_, r2⟩
  rw [strL_drop]
  first | exact r1 | simpa using r1

theorem uskip_any {w : World} {g : Nat} {T : TypeId} {cs : List Value} (s of : ByteArray) (ho : asciiB of) (h8 : of.size ≤ 8) (h : Rw w 0 g T (.string s :: cs)) :
    Calls Tryz.prog 49 #[.pointer (some ⟨g, 0, none⟩), .string of] w fun e w' => e = .returned (.tuple #[]) ∧ RestV w w' g T cs (s.data.toList.dropWhile (fun c => hasB of.data.toList c)) := by
  have HT := Lib.hid (fun W => Tryz.strings_TrimLeft s of W (by omega) (fun j b hj => ho b (List.mem_of_getElem? hj)))
  have c0 := Rw.cell h (j := 0) rfl
  have HR := Lib.hid h
  clear h ho
  go_enter Tryz.func49, Tryz.ntmps49
  go_wp2_with fail
  refine (HT.out _).mono ?_
  rintro e w1 ⟨rfl, hb⟩
  have HR1 := Lib.hid (Rw.below HR.out hb)
  have HK1 := Lib.hid (kept_below (F := fun k => k = g) hb)
  have f1 := Rw.free HR1.out 0
  have c1 := Rw.cell HR1.out (j := 0) rfl
  clear hb
  go_wp2_with fail
  go_end0
  obtain ⟨r1, r2⟩ := rw_store HR1.out 0 (strL (s.data.toList.dropWhile (fun c => hasB of.data.toList c))) HK1.out rfl
  exact ⟨rfl, by first | exact r1 | simpa using r1, r2⟩

end Go.Proofs.YtdgmcpdphifmbaaGreatDoor
