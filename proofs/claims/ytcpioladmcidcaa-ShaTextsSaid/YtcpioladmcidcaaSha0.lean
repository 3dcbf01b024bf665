/- What the reference's sums compute, in the model's own words for integers: no dump. -/
import Derived.Test.YtcpioladmcidcaaKit
import Derived.Test.YtcpioladmcidcaaRow
import Derived.Test.YtcpioladmcidcaaSha
namespace Go.Proofs.Ytcpioladmcidcaa
open Go.RowKit Go.Proofs

/-- The low 32 digits. -/
def m32 (x : Int) : Int := bits .and .u64 x 4294967295

def timesX (t a p : Int) : Int := IntKind.u64.wrap (IntKind.u64.wrap (a * m32 t) + p)

def timesY (t a p q : Int) : Int := IntKind.u64.wrap (IntKind.u64.wrap (q + timesX t a p / 4294967296) + IntKind.u64.wrap (a * (t / 4294967296)))

def timesZ (t a p q r : Int) : Int := IntKind.u64.wrap (r + timesY t a p q / 4294967296)

def timesUp (t : Int) (l : List Int) : Nat → List Int
  | 0 => List.replicate (l.length + 2) 0
  | k + 1 =>
    let o := timesUp t l k
    ((o.set k (m32 (timesX t (l.getD k 0) (o.getD k 0)))).set (k + 1) (m32 (timesY t (l.getD k 0) (o.getD k 0) (o.getD (k + 1) 0)))).set (k + 2) (timesZ t (l.getD k 0) (o.getD k 0) (o.getD (k + 1) 0) (o.getD (k + 2) 0))

def timesL (t : Int) (l : List Int) : List Int := timesUp t l l.length

theorem timesUp_len (t : Int) (l : List Int) (k : Nat) : (timesUp t l k).length = l.length + 2 := by
  induction k with
  | zero => simp [timesUp]
  | succ k ih => simp [timesUp, ih]

theorem own_set3 {w : World} {G : Nat} {e : TypeId} {n cap : Nat} {xs : List Value} (h : w.ownsRow G e 1 (.slice (some ⟨G, 0, none⟩) n cap) n xs) (n1 n2 i j k : Nat) (u v x : Value) :
    (((((w.drewN n1).setCell ⟨G, i, none⟩ u).drewN n2).setCell ⟨G, j, none⟩ v).setCell ⟨G, k, none⟩ x).ownsRow G e 1 (.slice (some ⟨G, 0, none⟩) n cap) n (((xs.set i u).set j v).set k x) := by
  have h1 : (w.drewN n1).ownsRow G e 1 (.slice (some ⟨G, 0, none⟩) n cap) n xs := h
  have h2 := (h1.stored i u).1
  have h3 : (((w.drewN n1).setCell ⟨G, i, none⟩ u).drewN n2).ownsRow G e 1 (.slice (some ⟨G, 0, none⟩) n cap) n (xs.set i u) := h2
  exact ((h3.stored j v).1.stored k x).1

theorem below_set3 {w0 w : World} {G : Nat} (h : Below G w0 w) (n1 n2 i j k : Nat) (u v x : Value) :
    Below G w0 (((((w.drewN n1).setCell ⟨G, i, none⟩ u).drewN n2).setCell ⟨G, j, none⟩ v).setCell ⟨G, k, none⟩ x) :=
  (((below_drewN ((below_drewN h n1).setCell (Nat.le_refl G) u) n2).setCell (Nat.le_refl G) v).setCell (Nat.le_refl G) x)

/-- a^k by words. -/
def powL (t : Int) : Nat → List Int
  | 0 => [1]
  | k + 1 => timesL t (powL t k)

theorem powL_len (t : Int) (k : Nat) : (powL t k).length = 1 + 2 * k := by
  induction k with
  | zero => rfl
  | succ k ih => unfold powL timesL; rw [timesUp_len, ih]; omega

/-- From the top: is the first at most the second? -/
def leTop : List Int → List Int → Bool
  | x :: a, y :: b => if x = y then leTop a b else decide (x < y)
  | _, _ => true

def mostB (t : Int) (k : Nat) (p : Int) : Bool := leTop (powL t k).reverse ((List.replicate k 0 ++ [p]) ++ List.replicate k 0).reverse

/-- The greatest root, bit by bit: c bits are decided. -/
def rootUp (p : Int) (k : Nat) : Nat → Int
  | 0 => 0
  | c + 1 =>
    let t := bits .or .u64 (rootUp p k c) (IntKind.u64.wrap (2 ^ (40 - c)))
    if mostB t k p then t else rootUp p k c

def rootS (p : Int) (k : Nat) : Int := IntKind.u32.wrap (rootUp p k 41)

theorem u64_wrap_nonneg (x : Int) : 0 ≤ IntKind.u64.wrap x := by rw [IntKind.wrap_u64]; omega

theorem bits_u64_nonneg (op : BinOp) (x y : Int) : 0 ≤ bits op .u64 x y := by unfold bits; exact u64_wrap_nonneg _

theorem rootUp_nonneg (p : Int) (k c : Nat) : 0 ≤ rootUp p k c := by
  induction c with
  | zero => exact Int.le_refl 0
  | succ c ih =>
    unfold rootUp
    simp only
    split
    · exact bits_u64_nonneg _ _ _
    · exact ih

theorem rootUp_yes {p : Int} {k c b : Nat} (hb : b = 40 - c) (h : mostB (bits .or .u64 (rootUp p k c) (IntKind.u64.wrap (2 ^ b))) k p = true) : rootUp p k (c + 1) = bits .or .u64 (rootUp p k c) (IntKind.u64.wrap (2 ^ b)) := by
  subst hb
  rw [rootUp]
  simp only [h, if_true]

theorem rootUp_no {p : Int} {k c b : Nat} (hb : b = 40 - c) (h : mostB (bits .or .u64 (rootUp p k c) (IntKind.u64.wrap (2 ^ b))) k p = false) : rootUp p k (c + 1) = rootUp p k c := by
  subst hb
  rw [rootUp]
  simp [h]

/-- The primes below 2 + i. -/
def primeUp : Nat → List Int
  | 0 => []
  | i + 1 => if (primeUp i).all (fun p => (2 + (i : Int)) % p != 0) then primeUp i ++ [2 + (i : Int)] else primeUp i

theorem primeUp_len (i : Nat) : (primeUp i).length ≤ (primeUp (i + 1)).length := by
  show _ ≤ (if _ then _ else _ : List Int).length
  split
  · rw [List.length_append]; omega
  · exact Nat.le_refl _

theorem primeUp_le {i j : Nat} (h : i ≤ j) : (primeUp i).length ≤ (primeUp j).length := by
  induction h with
  | refl => exact Nat.le_refl _
  | step _ ih => exact Nat.le_trans ih (primeUp_len _)

theorem primeUp_ge (i : Nat) : ∀ p ∈ primeUp i, 2 ≤ p := by
  induction i with
  | zero => intro p hp; cases hp
  | succ i ih =>
    intro p hp
    rw [primeUp] at hp
    split at hp
    · rcases List.mem_append.1 hp with h | h
      · exact ih p h
      · rw [List.mem_singleton.1 h]; omega
    · exact ih p hp

theorem primeUp_309 : (primeUp 309).length = 63 := by decide +kernel

theorem primeUp_310 : (primeUp 310).length = 64 := by decide +kernel

/-- The primes below 312: 64 of them. -/
def primeL : List Int := primeUp 310

/-- The tables, word by word. -/
def tabL : List Int := (primeL.take 8).map (fun p => rootS p 2) ++ primeL.map (fun p => rootS p 3)

/-- Of the first root words i are laid. -/
theorem tab_set {f : Int → Int} {l : List Int} {i : Nat} {p : Int} (h : l[i]? = some p) (a b : List Int) (z : Int) (ha : a = (l.take i).map f) :
    (a ++ z :: b).set i (f p) = ((l.take (i + 1)).map f) ++ b := by
  have hi : i < l.length := (List.getElem?_eq_some_iff.1 h).1
  have hl : a.length = i := by rw [ha, List.length_map, List.length_take]; omega
  rw [take_succ_of h, List.map_append, ← ha, ← hl, List.set_append_right _ _ (Nat.le_refl _), Nat.sub_self]
  simp

theorem primeL_le (p : Int) (h : p ∈ primeL) : 0 ≤ p ∧ p ≤ 1000 := by
  have : ∀ p ∈ primeL, 0 ≤ p ∧ p ≤ 1000 := by decide +kernel
  exact this p h

theorem tab_set2 {f : Int → Int} {l : List Int} {i : Nat} {p : Int} (h : l[i]? = some p) (pre a b : List Int) (z : Int) (hp : pre.length = 8) (ha : a = (l.take i).map f) :
    ((pre ++ a) ++ z :: b).set (8 + i) (f p) = (pre ++ (l.take (i + 1)).map f) ++ b := by
  rw [List.append_assoc, List.set_append_right _ _ (by omega), hp, show 8 + i - 8 = i from by omega, tab_set h a b z ha, List.append_assoc]

end Go.Proofs.Ytcpioladmcidcaa
