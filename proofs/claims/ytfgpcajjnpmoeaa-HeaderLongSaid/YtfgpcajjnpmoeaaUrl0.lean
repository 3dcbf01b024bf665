/- URLs in plain words: what is cleaned off, the scheme, the authority, the path, the query, the fragment; what is written of a URL. -/
import Derived.Lib.MapLaws
import Derived.Lib.ValidLaws
import Derived.Lib.LastIndexByte
import Derived.Lib.SlTrimSet
import Derived.Lib.TrimByte
import Derived.Lib.Join
import Derived.Test.YtfgpcajjnpmoeaaShelf
import Derived.Laws.RangeAny
import Derived.Laws.Runes
import Derived.BigQuiet
import Derived.BigRegion
import Derived.Lib.Small
import Derived.WalkMore
import Derived.Lib.OthersKept
import Derived.Lib.TrimUEq
import Derived.Test.YtfgpcajjnpmoeaaKit
import Derived.Test.YtfgpcajjnpmoeaaAsc1
namespace Go.Proofs.Ytfgpcajjnpmoeaa
open Go.RowKit
open Go.RowKit Go.Proofs

/-! up to the first of some bytes -/
def upL (of l : List UInt8) : List UInt8 := l.takeWhile (fun c => !hasB of c)

def fromL (of l : List UInt8) : List UInt8 := l.dropWhile (fun c => !hasB of c)

theorem up_from (of l : List UInt8) : upL of l ++ fromL of l = l := List.takeWhile_append_dropWhile

theorem up_nil (of : List UInt8) : upL of [] = [] := rfl

theorem from_nil (of : List UInt8) : fromL of [] = [] := rfl

theorem up_hit {of : List UInt8} {c : UInt8} (h : hasB of c = true) (l : List UInt8) : upL of (c :: l) = [] := by simp [upL, h]

theorem from_hit {of : List UInt8} {c : UInt8} (h : hasB of c = true) (l : List UInt8) : fromL of (c :: l) = c :: l := by simp [fromL, h]

theorem up_miss {of : List UInt8} {c : UInt8} (h : hasB of c = false) (l : List UInt8) : upL of (c :: l) = c :: upL of l := by simp [upL, h]

theorem from_miss {of : List UInt8} {c : UInt8} (h : hasB of c = false) (l : List UInt8) : fromL of (c :: l) = fromL of l := by simp [fromL, h]

theorem up_pre {of : List UInt8} : ∀ {p : List UInt8}, (∀ c ∈ p, hasB of c = false) → ∀ r, upL of (p ++ r) = p ++ upL of r
  | [], _, _ => rfl
  | c :: p, h, r => by
    rw [List.cons_append, up_miss (h c (by simp)), up_pre (fun x hx => h x (by simp [hx])) r]
    rfl

theorem from_pre {of : List UInt8} : ∀ {p : List UInt8}, (∀ c ∈ p, hasB of c = false) → ∀ r, fromL of (p ++ r) = fromL of r
  | [], _, _ => rfl
  | c :: p, h, r => by
    rw [List.cons_append, from_miss (h c (by simp)), from_pre (fun x hx => h x (by simp [hx])) r]

theorem up_all {of p : List UInt8} (h : ∀ c ∈ p, hasB of c = false) : upL of p = p := by
  have := up_pre h []
  rwa [List.append_nil, up_nil, List.append_nil] at this

theorem from_all {of p : List UInt8} (h : ∀ c ∈ p, hasB of c = false) : fromL of p = [] := by
  have := from_pre h []
  rwa [List.append_nil, from_nil] at this

theorem up_free (of : List UInt8) : ∀ (l : List UInt8) (c : UInt8), c ∈ upL of l → hasB of c = false
  | [], c, h => by simp [up_nil] at h
  | x :: l, c, h => by
    cases hx : hasB of x
    · rw [up_miss hx] at h
      rcases List.mem_cons.1 h with rfl | h
      · exact hx
      · exact up_free of l c h
    · rw [up_hit hx] at h
      simp at h

theorem from_head (of : List UInt8) : ∀ (l : List UInt8), fromL of l = [] ∨ ∃ c r, fromL of l = c :: r ∧ hasB of c = true
  | [] => .inl rfl
  | x :: l => by
    cases hx : hasB of x
    · rw [from_miss hx]
      exact from_head of l
    · rw [from_hit hx]
      exact .inr ⟨x, l, rfl, hx⟩

theorem up_mem {of l : List UInt8} {c : UInt8} (h : c ∈ upL of l) : c ∈ l := by rw [← up_from of l]; exact List.mem_append_left _ h

theorem from_mem {of l : List UInt8} {c : UInt8} (h : c ∈ fromL of l) : c ∈ l := by rw [← up_from of l]; exact List.mem_append_right _ h

theorem up_len (of l : List UInt8) : (upL of l).length ≤ l.length := by have := congrArg List.length (up_from of l); rw [List.length_append] at this; omega

theorem from_len (of l : List UInt8) : (fromL of l).length ≤ l.length := by have := congrArg List.length (up_from of l); rw [List.length_append] at this; omega

theorem has_one (a c : UInt8) : hasB [a] c = (c == a) := by rw [Bool.eq_iff_iff]; simp [hasB]

end Go.Proofs.Ytfgpcajjnpmoeaa
