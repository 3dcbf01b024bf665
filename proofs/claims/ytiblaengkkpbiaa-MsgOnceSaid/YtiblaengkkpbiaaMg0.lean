/- Messages as bytes, in plain words: what may be written, what is written, what is read; each undoes the other: no dump. -/
import Derived.Test.YtiblaengkkpbiaaKit
import Derived.Test.YtiblaengkkpbiaaRow
import Derived.Test.YtiblaengkkpbiaaFrm0
import Derived.Test.YtiblaengkkpbiaaFrm7
import Derived.Test.YtiblaengkkpbiaaKp0
namespace Go.Proofs.Ytiblaengkkpbiaa
open Go.RowKit Go.Proofs

structure MsgM where
  kd : Int
  fr : Int
  to : Int
  tm : Int
  ix : Int
  lt : Int
  cm : Int
  yes : Bool
  es : List EntM
  sn : SnpM

def zeroSn : SnpM := ⟨0, 0, [], ⟨#[]⟩⟩

def zeroMs : MsgM := ⟨0, 0, 0, 0, 0, 0, 0, false, [], zeroSn⟩

def intW (n : Int) : List UInt8 := layS 8 n.toNat

def intsW (l : List Int) : List UInt8 := (l.map intW).flatten

def txtW (d : ByteArray) : List UInt8 := layS 4 d.size ++ d.data.toList

def lstW (l : List Int) : List UInt8 := layS 1 l.length ++ intsW l

def yesW (b : Bool) : List UInt8 := layS 1 b.toNat

def entW (e : EntM) : List UInt8 := intsW [e.ix, e.tm, e.kd] ++ txtW e.d ++ lstW e.ms

def entsW (l : List EntM) : List UInt8 := (l.map entW).flatten

def snpW (s : SnpM) : List UInt8 := intsW [s.ix, s.tm] ++ lstW s.ms ++ txtW s.d

def bodyW (m : MsgM) : List UInt8 :=
  if m.kd = 1 then intsW [m.ix, m.lt]
  else if m.kd = 2 then yesW m.yes
  else if m.kd = 3 then intsW [m.ix, m.lt, m.cm] ++ layS 1 m.es.length ++ entsW m.es
  else if m.kd = 4 then yesW m.yes ++ intsW [m.ix]
  else if m.kd = 5 then snpW m.sn
  else []

def msgW (m : MsgM) : List UInt8 := layS 1 m.kd.toNat ++ intsW [m.fr, m.to, m.tm] ++ bodyW m

/-- Which messages are written. -/
def natsB (l : List Int) : Bool := l.all fun n => decide (0 ≤ n)

def ndB (n : Int) : Bool := decide (1 ≤ n) && decide (n ≤ 9)

def memsB (l : List Int) : Bool := decide (l.length ≤ 9) && natsB l

def entB (e : EntM) : Bool := natsB [e.ix, e.tm, e.kd] && decide (e.d.size ≤ 4000) && memsB e.ms

def entsB (l : List EntM) : Bool := decide (l.length ≤ 8) && l.all entB

def snpB (s : SnpM) : Bool := natsB [s.ix, s.tm] && decide (s.d.size ≤ 65536) && memsB s.ms

def unlM (m : MsgM) : MsgM :=
  if m.kd = 1 then { m with ix := 0, lt := 0 }
  else if m.kd = 2 then { m with yes := false }
  else if m.kd = 3 then { m with ix := 0, lt := 0, cm := 0, es := [] }
  else if m.kd = 4 then { m with yes := false, ix := 0 }
  else if m.kd = 5 then { m with sn := zeroSn }
  else m

def emptyB (m : MsgM) : Bool := m.ix == 0 && m.lt == 0 && m.cm == 0 && !m.yes && decide (m.es.length = 0) && m.sn.ix == 0 && m.sn.tm == 0 && decide (m.sn.ms.length = 0) && decide (m.sn.d.size = 0)

def okMB (m : MsgM) : Bool := decide (1 ≤ m.kd) && decide (m.kd ≤ 5) && ndB m.fr && ndB m.to && natsB [m.tm, m.ix, m.lt, m.cm] && entsB m.es && snpB m.sn && emptyB (unlM m)

/-- What is read: bytes that are left, and whether it is bad. -/
def takeR (n : Nat) (s : List UInt8 × Bool) : List UInt8 × List UInt8 × Bool := if s.1.length < n then ([], [], true) else (s.1.take n, s.1.drop n, s.2)

def numR (n : Nat) (s : List UInt8 × Bool) : Int × List UInt8 × Bool := if 9223372036854775808 ≤ numS (takeR n s).1 then (0, [], true) else (((numS (takeR n s).1 : Nat) : Int), (takeR n s).2)

def intsR : Nat → List UInt8 × Bool → List Int × List UInt8 × Bool
  | 0, s => ([], s)
  | k + 1, s => ((numR 8 s).1 :: (intsR k (numR 8 s).2).1, (intsR k (numR 8 s).2).2)

def yesR (s : List UInt8 × Bool) : Bool × List UInt8 × Bool := if 1 < (numR 1 s).1 then (false, [], true) else ((numR 1 s).1 == 1, (numR 1 s).2)

def txtR (s : List UInt8 × Bool) : List UInt8 × List UInt8 × Bool := takeR (numR 4 s).1.toNat (numR 4 s).2

def lstR (s : List UInt8 × Bool) : List Int × List UInt8 × Bool := intsR (numR 1 s).1.toNat (numR 1 s).2

def entR1 (s : List UInt8 × Bool) : EntM × List UInt8 × Bool :=
  let a := numR 8 s; let b := numR 8 a.2; let c := numR 8 b.2; let d := txtR c.2; let e := lstR d.2
  (⟨a.1, b.1, c.1, ⟨d.1.toArray⟩, e.1⟩, e.2)

def entsR : Nat → List UInt8 × Bool → List EntM × List UInt8 × Bool
  | 0, s => ([], s)
  | k + 1, s => ((entR1 s).1 :: (entsR k (entR1 s).2).1, (entsR k (entR1 s).2).2)

def snpR (s : List UInt8 × Bool) : SnpM × List UInt8 × Bool :=
  let a := numR 8 s; let b := numR 8 a.2; let e := lstR b.2; let d := txtR e.2
  (⟨a.1, b.1, e.1, ⟨d.1.toArray⟩⟩, d.2)

def headR (s : List UInt8 × Bool) : MsgM × List UInt8 × Bool :=
  let k := numR 1 s; let a := numR 8 k.2; let b := numR 8 a.2; let c := numR 8 b.2
  (⟨k.1, a.1, b.1, c.1, 0, 0, 0, false, [], zeroSn⟩, c.2)

def bodyR (m : MsgM) (s : List UInt8 × Bool) : MsgM × List UInt8 × Bool :=
  if m.kd = 1 then let a := numR 8 s; let b := numR 8 a.2; ({ m with ix := a.1, lt := b.1 }, b.2)
  else if m.kd = 2 then let a := yesR s; ({ m with yes := a.1 }, a.2)
  else if m.kd = 3 then let a := numR 8 s; let b := numR 8 a.2; let c := numR 8 b.2; let n := numR 1 c.2; let e := entsR n.1.toNat n.2; ({ m with ix := a.1, lt := b.1, cm := c.1, es := e.1 }, e.2)
  else if m.kd = 4 then let a := yesR s; let b := numR 8 a.2; ({ m with yes := a.1, ix := b.1 }, b.2)
  else if m.kd = 5 then let a := snpR s; ({ m with sn := a.1 }, a.2)
  else (m, s)

def msgR (s : List UInt8 × Bool) : MsgM × List UInt8 × Bool := bodyR (headR s).1 (headR s).2

/-- Numbers, written and read. -/
theorem numS_from (l : List UInt8) (c : Nat) : l.foldl (fun v x => v * 256 + x.toNat) c = c * 256 ^ l.length + numS l := by
  induction l generalizing c with
  | nil => simp [numS]
  | cons a l ih =>
    unfold numS
    rw [List.foldl_cons, List.foldl_cons, ih, ih (0 * 256 + a.toNat), List.length_cons, Nat.pow_succ]
    have : c * (256 ^ l.length * 256) = c * 256 * 256 ^ l.length := by rw [Nat.mul_comm (256 ^ l.length) 256, Nat.mul_assoc]
    rw [Nat.add_mul, Nat.zero_mul, Nat.zero_add, this]
    unfold numS
    omega

theorem numS_cons (a : UInt8) (l : List UInt8) : numS (a :: l) = a.toNat * 256 ^ l.length + numS l := by
  have := numS_from l a.toNat
  unfold numS at this ⊢
  rw [List.foldl_cons, Nat.zero_mul, Nat.zero_add]
  exact this

theorem num_lay : ∀ k v, numS (layS k v) = v % 256 ^ k
  | 0, v => by rw [layS, Nat.pow_zero, Nat.mod_one]; rfl
  | k + 1, v => by
    have h : v % 256 ^ (k + 1) = v % 256 ^ k + 256 ^ k * (v / 256 ^ k % 256) := by rw [Nat.pow_succ]; exact Nat.mod_mul
    rw [layS, numS_cons, layS_len, num_lay k v, UInt8.toNat_ofNat', h, Nat.mul_comm (256 ^ k)]
    show v / 256 ^ k % 256 * 256 ^ k + _ = _
    omega

theorem lay_mod : ∀ k v c, layS k (c * 256 ^ k + v) = layS k v
  | 0, _, _ => rfl
  | k + 1, v, c => by
    rw [layS, layS]
    have h1 : c * 256 ^ (k + 1) + v = (c * 256) * 256 ^ k + v := by rw [Nat.pow_succ, Nat.mul_comm (256 ^ k) 256, ← Nat.mul_assoc]
    have hp : 0 < 256 ^ k := Nat.pow_pos (by decide)
    rw [h1, lay_mod k v (c * 256)]
    congr 1
    rw [Nat.mul_comm (c * 256) (256 ^ k), Nat.mul_add_div hp]
    apply UInt8.toNat_inj.1
    rw [UInt8.toNat_ofNat', UInt8.toNat_ofNat']
    omega

theorem lay_num : ∀ l : List UInt8, layS l.length (numS l) = l
  | [] => rfl
  | a :: l => by
    have hp : 0 < 256 ^ l.length := Nat.pow_pos (by decide)
    have hl := numS_lt l
    rw [numS_cons, List.length_cons, layS, lay_mod, lay_num l]
    congr 1
    rw [Nat.mul_comm a.toNat, Nat.mul_add_div hp, Nat.div_eq_of_lt hl, Nat.add_zero]
    apply UInt8.toNat_inj.1
    rw [UInt8.toNat_ofNat']
    have := a.toNat_lt
    omega

theorem takeR_back (l r : List UInt8) (b : Bool) {n : Nat} (h : l.length = n) : takeR n (l ++ r, b) = (l, r, b) := by
  subst h
  unfold takeR
  rw [if_neg (by rw [List.length_append]; omega)]
  simp

theorem takeR_once {n : Nat} {s : List UInt8 × Bool} {x r : List UInt8} (h : takeR n s = (x, r, false)) : s = (x ++ r, false) ∧ x.length = n := by
  unfold takeR at h
  by_cases hn : s.1.length < n
  · rw [if_pos hn] at h; simp at h
  rw [if_neg hn] at h
  simp only [Prod.mk.injEq] at h
  obtain ⟨h1, h2, h3⟩ := h
  refine ⟨?_, by rw [← h1, List.length_take]; omega⟩
  rw [← h1, ← h2, List.take_append_drop, ← h3]

theorem numR_back {n v : Nat} (r : List UInt8) (b : Bool) (h : v < 256 ^ n) (h2 : v < 9223372036854775808) : numR n (layS n v ++ r, b) = ((v : Int), r, b) := by
  unfold numR
  rw [takeR_back _ _ _ (layS_len n v), num_lay, Nat.mod_eq_of_lt h, if_neg (by omega)]

theorem numR_once {n : Nat} {s : List UInt8 × Bool} {x : Int} {r : List UInt8} (h : numR n s = (x, r, false)) : s = (layS n x.toNat ++ r, false) ∧ 0 ≤ x ∧ x < 9223372036854775808 := by
  unfold numR at h
  by_cases hn : 9223372036854775808 ≤ numS (takeR n s).1
  · rw [if_pos hn] at h; simp at h
  rw [if_neg hn] at h
  simp only [Prod.mk.injEq] at h
  obtain ⟨h1, h2⟩ := h
  obtain ⟨h3, h4⟩ := takeR_once (n := n) (s := s) (x := (takeR n s).1) (r := r) (by rw [← h2])
  refine ⟨?_, by omega, by omega⟩
  rw [h3, ← h1, Int.toNat_natCast]
  have h5 := lay_num (takeR n s).1
  rw [h4] at h5
  rw [h5]

theorem intW_back {n : Int} (h : 0 ≤ n) (h2 : n < 9223372036854775808) (r : List UInt8) (b : Bool) : numR 8 (intW n ++ r, b) = (n, r, b) := by
  unfold intW
  rw [numR_back r b (by omega) (by omega)]
  congr 1
  omega

theorem intsW_cons (n : Int) (l : List Int) : intsW (n :: l) = intW n ++ intsW l := by unfold intsW; simp

theorem intsW_nil : intsW [] = [] := rfl

theorem intsW_snoc (l : List Int) (n : Int) : intsW (l ++ [n]) = intsW l ++ intW n := by unfold intsW; simp

theorem intsW_len : ∀ l : List Int, (intsW l).length = 8 * l.length
  | [] => rfl
  | n :: l => by rw [intsW_cons, List.length_append, intsW_len l]; unfold intW; rw [layS_len, List.length_cons]; omega

def smallI (l : List Int) : Prop := ∀ n ∈ l, n < 9223372036854775808

theorem natsB_iff (l : List Int) : natsB l = true ↔ ∀ n ∈ l, 0 ≤ n := by unfold natsB; simp

theorem intsR_back : ∀ (l : List Int) (r : List UInt8) (b : Bool), natsB l = true → smallI l → intsR l.length (intsW l ++ r, b) = (l, r, b)
  | [], r, b, _, _ => rfl
  | n :: l, r, b, h, hs => by
    have h0 := (natsB_iff _).1 h
    rw [List.length_cons, intsR, intsW_cons, List.append_assoc, intW_back (h0 n (by simp)) (hs n (by simp)), intsR_back l r b ((natsB_iff _).2 fun x hx => h0 x (by simp [hx])) (fun x hx => hs x (by simp [hx]))]

theorem intW_once {s : List UInt8 × Bool} {x : Int} {r : List UInt8} (h : numR 8 s = (x, r, false)) : s = (intW x ++ r, false) := (numR_once h).1

theorem intsR_once : ∀ {n : Nat} {s : List UInt8 × Bool} {l : List Int} {r : List UInt8}, intsR n s = (l, r, false) → s = (intsW l ++ r, false) ∧ l.length = n
  | 0, s, l, r, h => by
    rw [intsR] at h
    simp only [Prod.mk.injEq] at h
    obtain ⟨rfl, rfl⟩ := h
    exact ⟨rfl, rfl⟩
  | n + 1, s, l, r, h => by
    rw [intsR] at h
    simp only [Prod.mk.injEq] at h
    obtain ⟨h1, h2⟩ := h
    obtain ⟨e1, e2⟩ := intsR_once (n := n) (s := (numR 8 s).2) (l := (intsR n (numR 8 s).2).1) (r := r) (by rw [← h2])
    have e3 := intW_once (s := s) (x := (numR 8 s).1) (r := intsW (intsR n (numR 8 s).2).1 ++ r) (by rw [← e1])
    refine ⟨?_, by rw [← h1, List.length_cons, e2]⟩
    rw [← h1, intsW_cons, List.append_assoc]
    exact e3

theorem lstR_back (l : List Int) (r : List UInt8) (b : Bool) (h : memsB l = true) (hs : smallI l) : lstR (lstW l ++ r, b) = (l, r, b) := by
  unfold memsB at h
  simp only [Bool.and_eq_true, decide_eq_true_eq] at h
  unfold lstR lstW
  rw [List.append_assoc, numR_back _ b (by omega) (by omega), Int.toNat_natCast, intsR_back l r b h.2 hs]

theorem lstR_once {s : List UInt8 × Bool} {l : List Int} {r : List UInt8} (h : lstR s = (l, r, false)) : s = (lstW l ++ r, false) := by
  unfold lstR at h
  obtain ⟨e1, e2⟩ := intsR_once h
  obtain ⟨e3, e4, _⟩ := numR_once (n := 1) (s := s) (x := (numR 1 s).1) (r := intsW l ++ r) (by rw [← e1])
  unfold lstW
  rw [List.append_assoc, e2]
  exact e3

theorem txtR_back (d : ByteArray) (r : List UInt8) (b : Bool) (h : d.size < 4294967296) : txtR (txtW d ++ r, b) = (d.data.toList, r, b) := by
  unfold txtR txtW
  rw [List.append_assoc, numR_back _ b (by omega) (by omega), Int.toNat_natCast, takeR_back _ _ _ (size_data d)]

theorem txtR_once {s : List UInt8 × Bool} {l : List UInt8} {r : List UInt8} (h : txtR s = (l, r, false)) : s = (txtW ⟨l.toArray⟩ ++ r, false) := by
  unfold txtR at h
  obtain ⟨e1, e2⟩ := takeR_once h
  obtain ⟨e3, e4, _⟩ := numR_once (n := 4) (s := s) (x := (numR 4 s).1) (r := l ++ r) (by rw [← e1])
  have e5 : (⟨l.toArray⟩ : ByteArray).size = (numR 4 s).1.toNat := by rw [← size_data]; simpa using e2
  unfold txtW
  rw [List.append_assoc, e5]
  simpa using e3

theorem yesR_back (y : Bool) (r : List UInt8) (b : Bool) : yesR (yesW y ++ r, b) = (y, r, b) := by
  unfold yesR yesW
  cases y <;> rw [numR_back _ b (by decide) (by decide)] <;> simp

theorem yesR_once {s : List UInt8 × Bool} {y : Bool} {r : List UInt8} (h : yesR s = (y, r, false)) : s = (yesW y ++ r, false) := by
  unfold yesR at h
  by_cases hn : 1 < (numR 1 s).1
  · rw [if_pos hn] at h; simp at h
  rw [if_neg hn] at h
  simp only [Prod.mk.injEq] at h
  obtain ⟨h1, h2⟩ := h
  obtain ⟨e3, e4, _⟩ := numR_once (n := 1) (s := s) (x := (numR 1 s).1) (r := r) (by rw [← h2])
  rw [e3]
  unfold yesW
  have e5 : (numR 1 s).1 = 0 ∨ (numR 1 s).1 = 1 := by omega
  rcases e5 with e5 | e5
  · rw [e5] at h1; subst h1; rw [e5]; rfl
  · rw [e5] at h1; subst h1; rw [e5]; rfl

end Go.Proofs.Ytiblaengkkpbiaa
