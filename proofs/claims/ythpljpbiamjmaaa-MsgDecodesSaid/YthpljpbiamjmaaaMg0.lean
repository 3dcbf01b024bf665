/- Messages as bytes, in plain words: what may be written, what is written, what is read; each undoes the other: no dump. -/
import Derived.Test.YthpljpbiamjmaaaKit
import Derived.Test.YthpljpbiamjmaaaRow
import Derived.Test.YthpljpbiamjmaaaFrm0
import Derived.Test.YthpljpbiamjmaaaFrm7
import Derived.Test.YthpljpbiamjmaaaKp0
namespace Go.Proofs.Ythpljpbiamjmaaa
open Go.RowKit Go.Proofs

structure MsgM where
  kd : Int
  fr : Int
  to : Int
  tm : Int
  ix : Int
  lt : Int
  cm : Int
  yes : Bool
  es : List EntM
  sn : SnpM

def zeroSn : SnpM := ⟨0, 0, [], ⟨#[]⟩⟩

def zeroMs : MsgM := ⟨0, 0, 0, 0, 0, 0, 0, false, [], zeroSn⟩

def intW (n : Int) : List UInt8 := layS 8 n.toNat

def intsW (l : List Int) : List UInt8 := (l.map intW).flatten

def txtW (d : ByteArray) : List UInt8 := layS 4 d.size ++ d.data.toList

def lstW (l : List Int) : List UInt8 := layS 1 l.length ++ intsW l

def yesW (b : Bool) : List UInt8 := layS 1 b.toNat

def entW (e : EntM) : List UInt8 := intsW [e.ix, e.tm, e.kd] ++ txtW e.d ++ lstW e.ms

def entsW (l : List EntM) : List UInt8 := (l.map entW).flatten

def snpW (s : SnpM) : List UInt8 := intsW [s.ix, s.tm] ++ lstW s.ms ++ txtW s.d

def bodyW (m : MsgM) : List UInt8 :=
  if m.kd = 1 then intsW [m.ix, m.lt]
  else if m.kd = 2 then yesW m.yes
  else if m.kd = 3 then intsW [m.ix, m.lt, m.cm] ++ layS 1 m.es.length ++ entsW m.es
  else if m.kd = 4 then yesW m.yes ++ intsW [m.ix]
  else if m.kd = 5 then snpW m.sn
  else []

def msgW (m : MsgM) : List UInt8 := layS 1 m.kd.toNat ++ intsW [m.fr, m.to, m.tm] ++ bodyW m

/-- Which messages are written. -/
def natsB (l : List Int) : Bool := l.all fun n => decide (0 ≤ n)

def ndB (n : Int) : Bool := decide (1 ≤ n) && decide (n ≤ 9)

def memsB (l : List Int) : Bool := decide (l.length ≤ 9) && natsB l

def entB (e : EntM) : Bool := natsB [e.ix, e.tm, e.kd] && decide (e.d.size ≤ 4000) && memsB e.ms

def entsB (l : List EntM) : Bool := decide (l.length ≤ 8) && l.all entB

def snpB (s : SnpM) : Bool := natsB [s.ix, s.tm] && decide (s.d.size ≤ 65536) && memsB s.ms

def unlM (m : MsgM) : MsgM :=
  if m.kd = 1 then { m with ix := 0, lt := 0 }
  else if m.kd = 2 then { m with yes := false }
  else if m.kd = 3 then { m with ix := 0, lt := 0, cm := 0, es := [] }
  else if m.kd = 4 then { m with yes := false, ix := 0 }
  else if m.kd = 5 then { m with sn := zeroSn }
  else m

def emptyB (m : MsgM) : Bool := m.ix == 0 && m.lt == 0 && m.cm == 0 && !m.yes && decide (m.es.length = 0) && m.sn.ix == 0 && m.sn.tm == 0 && decide (m.sn.ms.length = 0) && decide (m.sn.d.size = 0)

def okMB (m : MsgM) : Bool := decide (1 ≤ m.kd) && decide (m.kd ≤ 5) && ndB m.fr && ndB m.to && natsB [m.tm, m.ix, m.lt, m.cm] && entsB m.es && snpB m.sn && emptyB (unlM m)

/-- What is read: bytes that are left, and whether it is bad. -/
def takeR (n : Nat) (s : List UInt8 × Bool) : List UInt8 × List UInt8 × Bool := if s.1.length < n then ([], [], true) else (s.1.take n, s.1.drop n, s.2)

def numR (n : Nat) (s : List UInt8 × Bool) : Int × List UInt8 × Bool := if 9223372036854775808 ≤ numS (takeR n s).1 then (0, [], true) else (((numS (takeR n s).1 : Nat) : Int), (takeR n s).2)

def intsR : Nat → List UInt8 × Bool → List Int × List UInt8 × Bool
  | 0, s => ([], s)
  | k + 1, s => ((numR 8 s).1 :: (intsR k (numR 8 s).2).1, (intsR k (numR 8 s).2).2)

def yesR (s : List UInt8 × Bool) : Bool × List UInt8 × Bool := if 1 < (numR 1 s).1 then (false, [], true) else ((numR 1 s).1 == 1, (numR 1 s).2)

def txtR (s : List UInt8 × Bool) : List UInt8 × List UInt8 × Bool := takeR (numR 4 s).1.toNat (numR 4 s).2

def lstR (s : List UInt8 × Bool) : List Int × List UInt8 × Bool := intsR (numR 1 s).1.toNat (numR 1 s).2

def entR1 (s : List UInt8 × Bool) : EntM × List UInt8 × Bool :=
  let a := numR 8 s; let b := numR 8 a.2; let c := numR 8 b.2; let d := txtR c.2; let e := lstR d.2
  (⟨a.1, b.1, c.1, ⟨d.1.toArray⟩, e.1⟩, e.2)

def entsR : Nat → List UInt8 × Bool → List EntM × List UInt8 × Bool
  | 0, s => ([], s)
  | k + 1, s => ((entR1 s).1 :: (entsR k (entR1 s).2).1, (entsR k (entR1 s).2).2)

def snpR (s : List UInt8 × Bool) : SnpM × List UInt8 × Bool :=
  let a := numR 8 s; let b := numR 8 a.2; let e := lstR b.2; let d := txtR e.2
  (⟨a.1, b.1, e.1, ⟨d.1.toArray⟩⟩, d.2)

def headR (s : List UInt8 × Bool) : MsgM × List UInt8 × Bool :=
  let k := numR 1 s; let a := numR 8 k.2; let b := numR 8 a.2; let c := numR 8 b.2
  (⟨k.1, a.1, b.1, c.1, 0, 0, 0, false, [], zeroSn⟩, c.2)

def bodyR (m : MsgM) (s : List UInt8 × Bool) : MsgM × List UInt8 × Bool :=
  if m.kd = 1 then let a := numR 8 s; let b := numR 8 a.2; ({ m with ix := a.1, lt := b.1 }, b.2)
  else if m.kd = 2 then let a := yesR s; ({ m with yes := a.1 }, a.2)
  else if m.kd = 3 then let a := numR 8 s; let b := numR 8 a.2; let c := numR 8 b.2; let n := numR 1 c.2; let e := entsR n.1.toNat n.2; ({ m with ix := a.1, lt := b.1, cm := c.1, es := e.1 }, e.2)
  else if m.kd = 4 then let a := yesR s; let b := numR 8 a.2; ({ m with yes := a.1, ix := b.1 }, b.2)
  else if m.kd = 5 then let a := snpR s; ({ m with sn := a.1 }, a.2)
  else (m, s)

def msgR (s : List UInt8 × Bool) : MsgM × List UInt8 × Bool := bodyR (headR s).1 (headR s).2

/-- Numbers, written and read. -/
theorem numS_from (l : List UInt8) (c : Nat) : l.foldl (fun v x => v * 256 + x.toNat) c = c * 256 ^ l.length + numS l := by
  induction l generalizing c with
  | nil => simp [numS]
  | cons a l ih =>
    unfold numS
    rw [List.foldl_cons, List.foldl_cons, ih, ih (0 * 256 + a.toNat), List.length_cons, Nat.pow_succ]
    have : c * (256 ^ l.length * 256) = c * 256 * 256 ^ l.length := by rw [Nat.mul_comm (256 ^ l.length) 256, Nat.mul_assoc]
    rw [Nat.add_mul, Nat.zero_mul, Nat.zero_add, this]
    unfold numS
    omega

theorem numS_cons (a : UInt8) (l : List UInt8) : numS (a :: l) = a.toNat * 256 ^ l.length + numS l := by
  have := numS_from l a.toNat
  unfold numS at this ⊢
  rw [List.foldl_cons, Nat.zero_mul, Nat.zero_add]
  exact this

theorem num_lay : ∀ k v, numS (layS k v) = v % 256 ^ k
  | 0, v => by rw [layS, Nat.pow_zero, Nat.mod_one]; rfl
  | k + 1, v => by
    have h : v % 256 ^ (k + 1) = v % 256 ^ k + 256 ^ k * (v / 256 ^ k % 256) := by rw [Nat.pow_succ]; exact Nat.mod_mul
    rw [layS, numS_cons, layS_len, num_lay k v, UInt8.toNat_ofNat', h, Nat.mul_comm (256 ^ k)]
    show v / 256 ^ k % 256 * 256 ^ k + _ = _
    omega

theorem lay_mod : ∀ k v c, layS k (c * 256 ^ k + v) = layS k v
  | 0, _, _ => rfl
  | k + 1, v, c => by
    rw [layS, layS]
    have h1 : c * 256 ^ (k + 1) + v = (c * 256) * 256 ^ k + v := by rw [Nat.pow_succ, Nat.mul_comm (256 ^ k) 256, ← Nat.mul_assoc]
    have hp : 0 < 256 ^ k := Nat.pow_pos (by decide)
    rw [h1, lay_mod k v (c * 256)]
    congr 1
    rw [Nat.mul_comm (c * 256) (256 ^ k), Nat.mul_add_div hp]
    apply UInt8.toNat_inj.1
    rw [UInt8.toNat_ofNat', UInt8.toNat_ofNat']
    omega

theorem lay_num : ∀ l : List UInt8, layS l.length (numS l) = l
  | [] => rfl
  | a :: l => by
    have hp : 0 < 256 ^ l.length := Nat.pow_pos (by decide)
    have hl := numS_lt l
    rw [numS_cons, List.length_cons, layS, lay_mod, lay_num l]
    congr 1
    rw [Nat.mul_comm a.toNat, Nat.mul_add_div hp, Nat.div_eq_of_lt hl, Nat.add_zero]
    apply UInt8.toNat_inj.1
    rw [UInt8.toNat_ofNat']
    have := a.toNat_lt
    omega

theorem takeR_back (l r : List UInt8) (b : Bool) {n : Nat} (h : l.length = n) : takeR n (l ++ r, b) = (l, r, b) := by
  subst h
  unfold takeR
  rw [if_neg (by rw [List.length_append]; omega)]
  simp

theorem takeR_once {n : Nat} {s : List UInt8 × Bool} {x r : List UInt8} (h : takeR n s = (x, r, false)) : s = (x ++ r, false) ∧ x.length = n := by
  unfold takeR at h
  by_cases hn : s.1.length < n
  · rw [if_pos hn] at h; simp at h
  rw [if_neg hn] at h
  simp only [Prod.mk.injEq] at h
  obtain ⟨h1, h2, h3⟩ := h
  refine ⟨?_, by rw [← h1, List.length_take]; omega⟩
  rw [← h1, ← h2, List.take_append_drop, ← h3]

theorem numR_back {n v : Nat} (r : List UInt8) (b : Bool) (h : v < 256 ^ n) (h2 : v < 9223372036854775808) : numR n (layS n v ++ r, b) = ((v : Int), r, b) := by
  unfold numR
  rw [takeR_back _ _ _ (layS_len n v), num_lay, Nat.mod_eq_of_lt h, if_neg (by omega)]

theorem numR_once {n : Nat} {s : List UInt8 × Bool} {x : Int} {r : List UInt8} (h : numR n s = (x, r, false)) : s = (layS n x.toNat ++ r, false) ∧ 0 ≤ x ∧ x < 9223372036854775808 := by
  unfold numR at h
  by_cases hn : 9223372036854775808 ≤ numS (takeR n s).1
  · rw [if_pos hn] at h; simp at h
  rw [if_neg hn] at h
  simp only [Prod.mk.injEq] at h
  obtain ⟨h1, h2⟩ := h
  obtain ⟨h3, h4⟩ := takeR_once (n := n) (s := s) (x := (takeR n s).1) (r := r) (by rw [← h2])
  refine ⟨?_, by omega, by omega⟩
  rw [h3, ← h1, Int.toNat_natCast]
  have h5 := lay_num (takeR n s).1
  rw [h4] at h5
  rw [h5]

theorem intW_back {n : Int} (h : 0 ≤ n) (h2 : n < 9223372036854775808) (r : List UInt8) (b : Bool) : numR 8 (intW n ++ r, b) = (n, r, b) := by
  unfold intW
  rw [numR_back r b (by omega) (by omega)]
  congr 1
  omega

theorem intsW_cons (n : Int) (l : List Int) : intsW (n :: l) = intW n ++ intsW l := by unfold intsW; simp

theorem intsW_nil : intsW [] = [] := rfl

theorem intsW_snoc (l : List Int) (n : Int) : intsW (l ++ [n]) = intsW l ++ intW n := by unfold intsW; simp

theorem intsW_len : ∀ l : List Int, (intsW l).length = 8 * l.length
  | [] => rfl
  | n :: l => by rw [intsW_cons, List.length_append, intsW_len l]; unfold intW; rw [layS_len, List.length_cons]; omega

def smallI (l : List Int) : Prop := ∀ n ∈ l, n < 9223372036854775808

theorem natsB_iff (l : List Int) : natsB l = true ↔ ∀ n ∈ l, 0 ≤ n := by unfold natsB; simp

theorem intsR_back : ∀ (l : List Int) (r : List UInt8) (b : Bool), natsB l = true → smallI l → intsR l.length (intsW l ++ r, b) = (l, r, b)
  | [], r, b, _, _ => rfl
  | n :: l, r, b, h, hs => by
    have h0 := (natsB_iff _).1 h
    rw [List.length_cons, intsR, intsW_cons, List.append_assoc, intW_back (h0 n (by simp)) (hs n (by simp)), intsR_back l r b ((natsB_iff _).2 fun x hx => h0 x (by simp [hx])) (fun x hx => hs x (by simp [hx]))]

theorem intW_once {s : List UInt8 × Bool} {x : Int} {r : List UInt8} (h : numR 8 s = (x, r, false)) : s = (intW x ++ r, false) := (numR_once h).1

theorem intsR_once : ∀ {n : Nat} {s : List UInt8 × Bool} {l : List Int} {r : List UInt8}, intsR n s = (l, r, false) → s = (intsW l ++ r, false) ∧ l.length = n
  | 0, s, l, r, h => by
    rw [intsR] at h
    simp only [Prod.mk.injEq] at h
    obtain ⟨rfl, rfl⟩ := h
    exact ⟨rfl, rfl⟩
  | n + 1, s, l, r, h => by
    rw [intsR] at h
    simp only [Prod.mk.injEq] at h
    obtain ⟨h1, h2⟩ := h
    obtain ⟨e1, e2⟩ := intsR_once (n := n) (s := (numR 8 s).2) (l := (intsR n (numR 8 s).2).1) (r := r) (by rw [← h2])
    have e3 := intW_once (s := s) (x := (numR 8 s).1) (r := intsW (intsR n (numR 8 s).2).1 ++ r) (by rw [← e1])
    refine ⟨?_, by rw [← h1, List.length_cons, e2]⟩
    rw [← h1, intsW_cons, List.append_assoc]
    exact e3

theorem lstR_back (l : List Int) (r : List UInt8) (b : Bool) (h : memsB l = true) (hs : smallI l) : lstR (lstW l ++ r, b) = (l, r, b) := by
  unfold memsB at h
  simp only [Bool.and_eq_true, decide_eq_true_eq] at h
  unfold lstR lstW
  rw [List.append_assoc, numR_back _ b (by omega) (by omega), Int.toNat_natCast, intsR_back l r b h.2 hs]

theorem lstR_once {s : List UInt8 × Bool} {l : List Int} {r : List UInt8} (h : lstR s = (l, r, false)) : s = (lstW l ++ r, false) := by
  unfold lstR at h
  obtain ⟨e1, e2⟩ := intsR_once h
  obtain ⟨e3, e4, _⟩ := numR_once (n := 1) (s := s) (x := (numR 1 s).1) (r := intsW l ++ r) (by rw [← e1])
  unfold lstW
  rw [List.append_assoc, e2]
  exact e3

theorem txtR_back (d : ByteArray) (r : List UInt8) (b : Bool) (h : d.size < 4294967296) : txtR (txtW d ++ r, b) = (d.data.toList, r, b) := by
  unfold txtR txtW
  rw [List.append_assoc, numR_back _ b (by omega) (by omega), Int.toNat_natCast, takeR_back _ _ _ (size_data d)]

theorem txtR_once {s : List UInt8 × Bool} {l : List UInt8} {r : List UInt8} (h : txtR s = (l, r, false)) : s = (txtW ⟨l.toArray⟩ ++ r, false) := by
  unfold txtR at h
  obtain ⟨e1, e2⟩ := takeR_once h
  obtain ⟨e3, e4, _⟩ := numR_once (n := 4) (s := s) (x := (numR 4 s).1) (r := l ++ r) (by rw [← e1])
  have e5 : (⟨l.toArray⟩ : ByteArray).size = (numR 4 s).1.toNat := by rw [← size_data]; simpa using e2
  unfold txtW
  rw [List.append_assoc, e5]
  simpa using e3

theorem yesR_back (y : Bool) (r : List UInt8) (b : Bool) : yesR (yesW y ++ r, b) = (y, r, b) := by
  unfold yesR yesW
  cases y <;> rw [numR_back _ b (by decide) (by decide)] <;> simp

theorem yesR_once {s : List UInt8 × Bool} {y : Bool} {r : List UInt8} (h : yesR s = (y, r, false)) : s = (yesW y ++ r, false) := by
  unfold yesR at h
  by_cases hn : 1 < (numR 1 s).1
  · rw [if_pos hn] at h; simp at h
  rw [if_neg hn] at h
  simp only [Prod.mk.injEq] at h
  obtain ⟨h1, h2⟩ := h
  obtain ⟨e3, e4, _⟩ := numR_once (n := 1) (s := s) (x := (numR 1 s).1) (r := r) (by rw [← h2])
  rw [e3]
  unfold yesW
  have e5 : (numR 1 s).1 = 0 ∨ (numR 1 s).1 = 1 := by omega
  rcases e5 with e5 | e5
  · rw [e5] at h1; subst h1; rw [e5]; rfl
  · rw [e5] at h1; subst h1; rw [e5]; rfl

def smallE (e : EntM) : Prop := smallI [e.ix, e.tm, e.kd] ∧ smallI e.ms

def smallS (s : SnpM) : Prop := smallI [s.ix, s.tm] ∧ smallI s.ms

def smallM (m : MsgM) : Prop := smallI [m.kd, m.fr, m.to, m.tm, m.ix, m.lt, m.cm] ∧ (∀ e ∈ m.es, smallE e) ∧ smallS m.sn

theorem intW_back3 {x : Int} {l : List Int} (h : natsB l = true) (hs : smallI l) (hx : x ∈ l) (r : List UInt8) (b : Bool) : numR 8 (intW x ++ r, b) = (x, r, b) := intW_back ((natsB_iff _).1 h x hx) (hs x hx) r b

theorem bytes_back (d : ByteArray) : (⟨d.data.toList.toArray⟩ : ByteArray) = d := by cases d; rfl

theorem entR1_back (e : EntM) (r : List UInt8) (b : Bool) (h : entB e = true) (hs : smallE e) : entR1 (entW e ++ r, b) = (e, r, b) := by
  unfold entB at h
  simp only [Bool.and_eq_true, decide_eq_true_eq] at h
  obtain ⟨⟨h1, h2⟩, h3⟩ := h
  have e0 : entW e ++ r = intW e.ix ++ (intW e.tm ++ (intW e.kd ++ (txtW e.d ++ (lstW e.ms ++ r)))) := by
    unfold entW
    simp only [intsW_cons, intsW_nil, List.append_nil, List.append_assoc]
  unfold entR1
  rw [e0, intW_back3 h1 hs.1 (by simp)]
  dsimp only
  rw [intW_back3 h1 hs.1 (by simp)]
  dsimp only
  rw [intW_back3 h1 hs.1 (by simp)]
  dsimp only
  rw [txtR_back _ _ _ (by omega)]
  dsimp only
  rw [lstR_back _ _ _ h3 hs.2, bytes_back]

theorem entR1_once {s : List UInt8 × Bool} {e : EntM} {r : List UInt8} (h : entR1 s = (e, r, false)) : s = (entW e ++ r, false) := by
  unfold entR1 at h
  simp only [Prod.mk.injEq] at h
  obtain ⟨h1, h2⟩ := h
  have e5 := lstR_once (l := (lstR (txtR (numR 8 (numR 8 (numR 8 s).2).2).2).2).1) (r := r) (by rw [← h2])
  have e4 := txtR_once (l := (txtR (numR 8 (numR 8 (numR 8 s).2).2).2).1) (by rw [← e5])
  have e3 := intW_once (x := (numR 8 (numR 8 (numR 8 s).2).2).1) (by rw [← e4])
  have e2 := intW_once (x := (numR 8 (numR 8 s).2).1) (by rw [← e3])
  have e1 := intW_once (x := (numR 8 s).1) (by rw [← e2])
  rw [e1, ← h1]
  unfold entW
  simp only [intsW_cons, intsW_nil, List.append_nil, List.append_assoc]

theorem entsW_cons (e : EntM) (l : List EntM) : entsW (e :: l) = entW e ++ entsW l := by unfold entsW; simp

theorem entsW_snoc (l : List EntM) (e : EntM) : entsW (l ++ [e]) = entsW l ++ entW e := by unfold entsW; simp

theorem entsR_back : ∀ (l : List EntM) (r : List UInt8) (b : Bool), l.all entB = true → (∀ e ∈ l, smallE e) → entsR l.length (entsW l ++ r, b) = (l, r, b)
  | [], r, b, _, _ => rfl
  | e :: l, r, b, h, hs => by
    simp only [List.all_cons, Bool.and_eq_true] at h
    rw [List.length_cons, entsR, entsW_cons, List.append_assoc, entR1_back e _ b h.1 (hs e (by simp)), entsR_back l r b h.2 (fun x hx => hs x (by simp [hx]))]

theorem entsR_once : ∀ {n : Nat} {s : List UInt8 × Bool} {l : List EntM} {r : List UInt8}, entsR n s = (l, r, false) → s = (entsW l ++ r, false) ∧ l.length = n
  | 0, s, l, r, h => by
    rw [entsR] at h
    simp only [Prod.mk.injEq] at h
    obtain ⟨rfl, rfl⟩ := h
    exact ⟨rfl, rfl⟩
  | n + 1, s, l, r, h => by
    rw [entsR] at h
    simp only [Prod.mk.injEq] at h
    obtain ⟨h1, h2⟩ := h
    obtain ⟨e1, e2⟩ := entsR_once (n := n) (s := (entR1 s).2) (l := (entsR n (entR1 s).2).1) (r := r) (by rw [← h2])
    have e3 := entR1_once (s := s) (e := (entR1 s).1) (r := entsW (entsR n (entR1 s).2).1 ++ r) (by rw [← e1])
    refine ⟨?_, by rw [← h1, List.length_cons, e2]⟩
    rw [← h1, entsW_cons, List.append_assoc]
    exact e3

theorem snpR_back (s : SnpM) (r : List UInt8) (b : Bool) (h : snpB s = true) (hs : smallS s) : snpR (snpW s ++ r, b) = (s, r, b) := by
  unfold snpB at h
  simp only [Bool.and_eq_true, decide_eq_true_eq] at h
  obtain ⟨⟨h1, h2⟩, h3⟩ := h
  have e0 : snpW s ++ r = intW s.ix ++ (intW s.tm ++ (lstW s.ms ++ (txtW s.d ++ r))) := by
    unfold snpW
    simp only [intsW_cons, intsW_nil, List.append_nil, List.append_assoc]
  unfold snpR
  rw [e0, intW_back3 h1 hs.1 (by simp)]
  dsimp only
  rw [intW_back3 h1 hs.1 (by simp)]
  dsimp only
  rw [lstR_back _ _ _ h3 hs.2]
  dsimp only
  rw [txtR_back _ _ _ (by omega), bytes_back]

theorem snpR_once {s : List UInt8 × Bool} {e : SnpM} {r : List UInt8} (h : snpR s = (e, r, false)) : s = (snpW e ++ r, false) := by
  unfold snpR at h
  simp only [Prod.mk.injEq] at h
  obtain ⟨h1, h2⟩ := h
  have e5 := txtR_once (l := (txtR (lstR (numR 8 (numR 8 s).2).2).2).1) (r := r) (by rw [← h2])
  have e4 := lstR_once (l := (lstR (numR 8 (numR 8 s).2).2).1) (by rw [← e5])
  have e2 := intW_once (x := (numR 8 (numR 8 s).2).1) (by rw [← e4])
  have e1 := intW_once (x := (numR 8 s).1) (by rw [← e2])
  rw [e1, ← h1]
  unfold snpW
  simp only [intsW_cons, intsW_nil, List.append_nil, List.append_assoc]

theorem okMB_parts {m : MsgM} (h : okMB m = true) : (1 ≤ m.kd ∧ m.kd ≤ 5) ∧ (1 ≤ m.fr ∧ m.fr ≤ 9) ∧ (1 ≤ m.to ∧ m.to ≤ 9) ∧ natsB [m.tm, m.ix, m.lt, m.cm] = true ∧ entsB m.es = true ∧ snpB m.sn = true ∧ emptyB (unlM m) = true := by
  unfold okMB ndB at h
  simp only [Bool.and_eq_true, decide_eq_true_eq] at h
  obtain ⟨⟨⟨⟨⟨⟨⟨h1, h2⟩, h3⟩, h4⟩, h5⟩, h6⟩, h7⟩, h8⟩ := h
  exact ⟨⟨h1, h2⟩, h3, h4, h5, h6, h7, h8⟩

theorem sn_zero {s : SnpM} (h1 : s.ix = 0) (h2 : s.tm = 0) (h3 : s.ms.length = 0) (h4 : s.d.size = 0) : s = zeroSn := by
  obtain ⟨a, b, c, d⟩ := s
  simp only at h1 h2 h3 h4
  subst h1 h2
  have hc : c = [] := List.eq_nil_of_length_eq_zero h3
  subst hc
  have hd : d.data.toList = [] := List.eq_nil_of_length_eq_zero (by rw [size_data]; exact h4)
  have hd2 := mk_list d hd
  rw [hd2]
  rfl

theorem emptyB_parts {m : MsgM} (h : emptyB m = true) : m.ix = 0 ∧ m.lt = 0 ∧ m.cm = 0 ∧ m.yes = false ∧ m.es = [] ∧ m.sn = zeroSn := by
  unfold emptyB at h
  simp only [Bool.and_eq_true, decide_eq_true_eq, beq_iff_eq, Bool.not_eq_true'] at h
  obtain ⟨⟨⟨⟨⟨⟨⟨⟨h1, h2⟩, h3⟩, h4⟩, h5⟩, h6⟩, h7⟩, h8⟩, h9⟩ := h
  exact ⟨h1, h2, h3, h4, List.eq_nil_of_length_eq_zero h5, sn_zero h6 h7 h8 h9⟩

theorem headR_back (m : MsgM) (r : List UInt8) (b : Bool) (h : okMB m = true) (hs : smallM m) : headR (layS 1 m.kd.toNat ++ intsW [m.fr, m.to, m.tm] ++ r, b) = (⟨m.kd, m.fr, m.to, m.tm, 0, 0, 0, false, [], zeroSn⟩, r, b) := by
  obtain ⟨h1, h2, h3, h4, _⟩ := okMB_parts h
  have e0 : layS 1 m.kd.toNat ++ intsW [m.fr, m.to, m.tm] ++ r = layS 1 m.kd.toNat ++ (intW m.fr ++ (intW m.to ++ (intW m.tm ++ r))) := by
    simp only [intsW_cons, intsW_nil, List.append_nil, List.append_assoc]
  unfold headR
  rw [e0, numR_back _ _ (by omega) (by omega)]
  dsimp only
  rw [intW_back (by omega) (by omega)]
  dsimp only
  rw [intW_back (by omega) (by omega)]
  dsimp only
  rw [intW_back3 h4 (fun n hn => by rcases List.mem_cons.1 hn with rfl | hn; exact hs.1 _ (by simp); rcases List.mem_cons.1 hn with rfl | hn; exact hs.1 _ (by simp); rcases List.mem_cons.1 hn with rfl | hn; exact hs.1 _ (by simp); rcases List.mem_cons.1 hn with rfl | hn; exact hs.1 _ (by simp); simp at hn) (by simp)]
  dsimp only
  rw [show ((m.kd.toNat : Nat) : Int) = m.kd by omega]

theorem msgR_back (m : MsgM) (r : List UInt8) (b : Bool) (h : okMB m = true) (hs : smallM m) : msgR (msgW m ++ r, b) = (m, r, b) := by
  obtain ⟨h1, h2, h3, h4, h5, h6, h7⟩ := okMB_parts h
  have hsI : smallI [m.tm, m.ix, m.lt, m.cm] := fun n hn => hs.1 n (by simp only [List.mem_cons, List.not_mem_nil, or_false] at hn; rcases hn with rfl | rfl | rfl | rfl <;> simp)
  unfold msgR msgW
  rw [List.append_assoc, headR_back m _ b h hs]
  dsimp only
  unfold bodyR bodyW
  dsimp only
  obtain ⟨kd, fr, to, tm, ix, lt, cm, yes, es, sn⟩ := m
  dsimp only at h1 h2 h3 h4 h5 h6 h7 hsI ⊢
  have hkd : kd = 1 ∨ kd = 2 ∨ kd = 3 ∨ kd = 4 ∨ kd = 5 := by omega
  rcases hkd with rfl | rfl | rfl | rfl | rfl
  · obtain ⟨g1, g2, g3, g4, g5, g6⟩ := emptyB_parts h7
    simp [unlM] at g1 g2 g3 g4 g5 g6
    subst g3 g4 g5 g6
    simp only [if_true, intsW_cons, intsW_nil, List.append_nil, List.append_assoc]
    rw [intW_back3 h4 hsI (by simp)]
    dsimp only
    rw [intW_back3 h4 hsI (by simp)]
  · obtain ⟨g1, g2, g3, g4, g5, g6⟩ := emptyB_parts h7
    simp [unlM] at g1 g2 g3 g4 g5 g6
    subst g1 g2 g3 g5 g6
    rw [if_neg (by decide), if_pos rfl, if_neg (by decide), if_pos rfl, yesR_back]
  · obtain ⟨g1, g2, g3, g4, g5, g6⟩ := emptyB_parts h7
    simp [unlM] at g1 g2 g3 g4 g5 g6
    subst g4 g6
    unfold entsB at h5
    simp only [Bool.and_eq_true, decide_eq_true_eq] at h5
    rw [if_neg (by decide), if_neg (by decide), if_pos rfl, if_neg (by decide), if_neg (by decide), if_pos rfl]
    simp only [intsW_cons, intsW_nil, List.append_nil, List.append_assoc]
    rw [intW_back3 h4 hsI (by simp)]
    dsimp only
    rw [intW_back3 h4 hsI (by simp)]
    dsimp only
    rw [intW_back3 h4 hsI (by simp)]
    dsimp only
    rw [numR_back _ _ (by omega) (by omega)]
    dsimp only
    rw [Int.toNat_natCast, entsR_back es r b h5.2 hs.2.1]
  · obtain ⟨g1, g2, g3, g4, g5, g6⟩ := emptyB_parts h7
    simp [unlM] at g1 g2 g3 g4 g5 g6
    subst g2 g3 g5 g6
    rw [if_neg (by decide), if_neg (by decide), if_neg (by decide), if_pos rfl, if_neg (by decide), if_neg (by decide), if_neg (by decide), if_pos rfl]
    simp only [intsW_cons, intsW_nil, List.append_nil, List.append_assoc]
    rw [yesR_back]
    dsimp only
    rw [intW_back3 h4 hsI (by simp)]
  · obtain ⟨g1, g2, g3, g4, g5, g6⟩ := emptyB_parts h7
    simp [unlM] at g1 g2 g3 g4 g5 g6
    subst g1 g2 g3 g4 g5
    rw [if_neg (by decide), if_neg (by decide), if_neg (by decide), if_neg (by decide), if_pos rfl, if_neg (by decide), if_neg (by decide), if_neg (by decide), if_neg (by decide), if_pos rfl, snpR_back sn r b h6 hs.2.2]

theorem msgR_once {s : List UInt8 × Bool} {m : MsgM} {r : List UInt8} (h : msgR s = (m, r, false)) (hk : 1 ≤ m.kd ∧ m.kd ≤ 5) : s = (msgW m ++ r, false) := by
  unfold msgR at h
  obtain ⟨q, hq⟩ : ∃ q, q = headR s := ⟨_, rfl⟩
  rw [← hq] at h
  have hhead : ∀ r', q.2 = (r', false) → s = (layS 1 q.1.kd.toNat ++ intsW [q.1.fr, q.1.to, q.1.tm] ++ r', false) := fun r' hr => by
    unfold headR at hq
    rw [hq] at hr ⊢
    dsimp only at hr ⊢
    have e3 := intW_once (x := (numR 8 (numR 8 (numR 8 (numR 1 s).2).2).2).1) (r := r') (by rw [← hr])
    have e2 := intW_once (x := (numR 8 (numR 8 (numR 1 s).2).2).1) (by rw [← e3])
    have e1 := intW_once (x := (numR 8 (numR 1 s).2).1) (by rw [← e2])
    obtain ⟨e0, _⟩ := numR_once (x := (numR 1 s).1) (by rw [← e1])
    refine e0.trans ?_
    simp only [intsW_cons, intsW_nil, List.append_nil, List.append_assoc]
  have hz : q.1.yes = false ∧ q.1.ix = 0 ∧ q.1.lt = 0 ∧ q.1.cm = 0 ∧ q.1.es = [] ∧ q.1.sn = zeroSn := by rw [hq]; unfold headR; exact ⟨rfl, rfl, rfl, rfl, rfl, rfl⟩
  obtain ⟨⟨kd, fr, to, tm, ix, lt, cm, yes, es, sn⟩, t⟩ := q
  dsimp only at h hhead hz
  have hkd : kd = m.kd := by
    unfold bodyR at h
    dsimp only at h
    split at h
    · simp only [Prod.mk.injEq] at h; rw [← h.1]
    split at h
    · simp only [Prod.mk.injEq] at h; rw [← h.1]
    split at h
    · simp only [Prod.mk.injEq] at h; rw [← h.1]
    split at h
    · simp only [Prod.mk.injEq] at h; rw [← h.1]
    split at h
    · simp only [Prod.mk.injEq] at h; rw [← h.1]
    · simp only [Prod.mk.injEq] at h; rw [← h.1]
  have hkd5 : kd = 1 ∨ kd = 2 ∨ kd = 3 ∨ kd = 4 ∨ kd = 5 := by omega
  unfold msgW
  clear hz hq hkd hk
  unfold bodyR at h
  dsimp only at h
  rcases hkd5 with rfl | rfl | rfl | rfl | rfl
  · rw [if_pos rfl] at h
    simp only [Prod.mk.injEq] at h
    obtain ⟨rfl, h2⟩ := h
    have e2 := intW_once (x := (numR 8 (numR 8 t).2).1) (r := r) (by rw [← h2])
    have e1 := intW_once (x := (numR 8 t).1) (by rw [← e2])
    rw [hhead _ e1]
    unfold bodyW
    dsimp only
    rw [if_pos rfl]
    simp only [intsW_cons, intsW_nil, List.append_nil, List.append_assoc]
  · rw [if_neg (by decide), if_pos rfl] at h
    simp only [Prod.mk.injEq] at h
    obtain ⟨rfl, h2⟩ := h
    have e1 := yesR_once (y := (yesR t).1) (r := r) (by rw [← h2])
    rw [hhead _ e1]
    unfold bodyW
    dsimp only
    rw [if_neg (by decide), if_pos rfl]
    simp only [intsW_cons, intsW_nil, List.append_nil, List.append_assoc]
  · rw [if_neg (by decide), if_neg (by decide), if_pos rfl] at h
    simp only [Prod.mk.injEq] at h
    obtain ⟨rfl, h2⟩ := h
    obtain ⟨e5, e6⟩ := entsR_once (l := (entsR (numR 1 (numR 8 (numR 8 (numR 8 t).2).2).2).1.toNat (numR 1 (numR 8 (numR 8 (numR 8 t).2).2).2).2).1) (r := r) (by rw [← h2])
    obtain ⟨e4, _⟩ := numR_once (x := (numR 1 (numR 8 (numR 8 (numR 8 t).2).2).2).1) (by rw [← e5])
    have e3 := intW_once (x := (numR 8 (numR 8 (numR 8 t).2).2).1) (by rw [← e4])
    have e2 := intW_once (x := (numR 8 (numR 8 t).2).1) (by rw [← e3])
    have e1 := intW_once (x := (numR 8 t).1) (by rw [← e2])
    rw [hhead _ e1]
    unfold bodyW
    dsimp only
    rw [if_neg (by decide), if_neg (by decide), if_pos rfl, e6]
    simp only [intsW_cons, intsW_nil, List.append_nil, List.append_assoc]
  · rw [if_neg (by decide), if_neg (by decide), if_neg (by decide), if_pos rfl] at h
    simp only [Prod.mk.injEq] at h
    obtain ⟨rfl, h2⟩ := h
    have e2 := intW_once (x := (numR 8 (yesR t).2).1) (r := r) (by rw [← h2])
    have e1 := yesR_once (y := (yesR t).1) (by rw [← e2])
    rw [hhead _ e1]
    unfold bodyW
    dsimp only
    rw [if_neg (by decide), if_neg (by decide), if_neg (by decide), if_pos rfl]
    simp only [intsW_cons, intsW_nil, List.append_nil, List.append_assoc]
  · rw [if_neg (by decide), if_neg (by decide), if_neg (by decide), if_neg (by decide), if_pos rfl] at h
    simp only [Prod.mk.injEq] at h
    obtain ⟨rfl, h2⟩ := h
    have e1 := snpR_once (e := (snpR t).1) (r := r) (by rw [← h2])
    rw [hhead _ e1]
    unfold bodyW
    dsimp only
    rw [if_neg (by decide), if_neg (by decide), if_neg (by decide), if_neg (by decide), if_pos rfl]
    simp only [intsW_cons, intsW_nil, List.append_nil, List.append_assoc]

/-- What is read is small. -/
theorem numR_lt (n : Nat) (s : List UInt8 × Bool) : (numR n s).1 < 9223372036854775808 := by
  unfold numR
  split
  · decide
  · dsimp only; omega

theorem intsR_small : ∀ (n : Nat) (s : List UInt8 × Bool), smallI (intsR n s).1
  | 0, s => fun n hn => by simp [intsR] at hn
  | k + 1, s => fun n hn => by
    rw [intsR] at hn
    rcases List.mem_cons.1 hn with rfl | hn
    · exact numR_lt _ _
    · exact intsR_small k _ n hn

theorem lstR_small (s : List UInt8 × Bool) : smallI (lstR s).1 := by unfold lstR; exact intsR_small _ _

theorem small3 {a b c : Int} (ha : a < 9223372036854775808) (hb : b < 9223372036854775808) (hc : c < 9223372036854775808) : smallI [a, b, c] := fun n hn => by
  simp only [List.mem_cons, List.not_mem_nil, or_false] at hn
  rcases hn with rfl | rfl | rfl <;> assumption

theorem small2 {a b : Int} (ha : a < 9223372036854775808) (hb : b < 9223372036854775808) : smallI [a, b] := fun n hn => by
  simp only [List.mem_cons, List.not_mem_nil, or_false] at hn
  rcases hn with rfl | rfl <;> assumption

theorem entR1_eq (s : List UInt8 × Bool) : (entR1 s).1 = ⟨(numR 8 s).1, (numR 8 (numR 8 s).2).1, (numR 8 (numR 8 (numR 8 s).2).2).1, ⟨(txtR (numR 8 (numR 8 (numR 8 s).2).2).2).1.toArray⟩, (lstR (txtR (numR 8 (numR 8 (numR 8 s).2).2).2).2).1⟩ := by unfold entR1; rfl

theorem entR1_small (s : List UInt8 × Bool) : smallE (entR1 s).1 := by
  have h1 := numR_lt 8 s
  have h2 := numR_lt 8 (numR 8 s).2
  have h3 := numR_lt 8 (numR 8 (numR 8 s).2).2
  have h := lstR_small (txtR (numR 8 (numR 8 (numR 8 s).2).2).2).2
  rw [entR1_eq]
  generalize numR 8 s = q1 at *
  generalize numR 8 q1.2 = q2 at *
  generalize numR 8 q2.2 = q3 at *
  generalize txtR q3.2 = q4 at *
  generalize lstR q4.2 = q5 at *
  exact ⟨small3 h1 h2 h3, h⟩

theorem entsR_small : ∀ (n : Nat) (s : List UInt8 × Bool), ∀ e ∈ (entsR n s).1, smallE e
  | 0, s => fun n hn => by simp [entsR] at hn
  | k + 1, s => fun n hn => by
    rw [entsR] at hn
    rcases List.mem_cons.1 hn with rfl | hn
    · exact entR1_small _
    · exact entsR_small k _ n hn

theorem snpR_eq (s : List UInt8 × Bool) : (snpR s).1 = ⟨(numR 8 s).1, (numR 8 (numR 8 s).2).1, (lstR (numR 8 (numR 8 s).2).2).1, ⟨(txtR (lstR (numR 8 (numR 8 s).2).2).2).1.toArray⟩⟩ := by unfold snpR; rfl

theorem snpR_small (s : List UInt8 × Bool) : smallS (snpR s).1 := by
  have h1 := numR_lt 8 s
  have h2 := numR_lt 8 (numR 8 s).2
  have h := lstR_small (numR 8 (numR 8 s).2).2
  rw [snpR_eq]
  generalize numR 8 s = q1 at *
  generalize numR 8 q1.2 = q2 at *
  generalize lstR q2.2 = q3 at *
  generalize txtR q3.2 = q4 at *
  exact ⟨small2 h1 h2, h⟩

theorem zeroSn_small : smallS zeroSn := ⟨fun n hn => by simp [zeroSn] at hn; subst hn; decide, fun n hn => by simp [zeroSn] at hn⟩

theorem msgR_small (s : List UInt8 × Bool) : smallM (msgR s).1 := by
  have hh : ∀ n ∈ [(headR s).1.kd, (headR s).1.fr, (headR s).1.to, (headR s).1.tm], n < 9223372036854775808 := fun n hn => by
    unfold headR at hn
    dsimp only at hn
    simp only [List.mem_cons, List.not_mem_nil, or_false] at hn
    rcases hn with h | h | h | h
    · rw [h]; exact numR_lt 1 s
    · rw [h]; exact numR_lt 8 (numR 1 s).2
    · rw [h]; exact numR_lt 8 (numR 8 (numR 1 s).2).2
    · rw [h]; exact numR_lt 8 (numR 8 (numR 8 (numR 1 s).2).2).2
  have hz : (headR s).1.ix = 0 ∧ (headR s).1.lt = 0 ∧ (headR s).1.cm = 0 ∧ (headR s).1.es = [] ∧ (headR s).1.sn = zeroSn := by unfold headR; exact ⟨rfl, rfl, rfl, rfl, rfl⟩
  unfold msgR
  obtain ⟨q, hq⟩ : ∃ q, q = headR s := ⟨_, rfl⟩
  rw [← hq] at hh hz ⊢
  clear hq
  obtain ⟨⟨kd, fr, to, tm, ix, lt, cm, yes, es, sn⟩, t⟩ := q
  dsimp only at hh hz ⊢
  obtain ⟨rfl, rfl, rfl, rfl, rfl⟩ := hz
  have h1 := hh kd (by simp)
  have h2 := hh fr (by simp)
  have h3 := hh to (by simp)
  have h4 := hh tm (by simp)
  have key : ∀ (a b c : Int) (es : List EntM) (sn : SnpM) (y : Bool), a < 9223372036854775808 → b < 9223372036854775808 → c < 9223372036854775808 → (∀ e ∈ es, smallE e) → smallS sn → smallM ⟨kd, fr, to, tm, a, b, c, y, es, sn⟩ := fun a b c es sn y ha hb hc he hs => ⟨fun n hn => by
    simp only [List.mem_cons, List.not_mem_nil, or_false] at hn
    rcases hn with rfl | rfl | rfl | rfl | rfl | rfl | rfl <;> assumption, he, hs⟩
  have hne : ∀ e ∈ ([] : List EntM), smallE e := fun e he => by simp at he
  unfold bodyR
  dsimp only
  by_cases k1 : kd = 1
  · rw [if_pos k1]
    exact key (numR 8 t).1 (numR 8 (numR 8 t).2).1 0 [] zeroSn yes (numR_lt _ _) (numR_lt _ _) (by decide) hne zeroSn_small
  rw [if_neg k1]
  by_cases k2 : kd = 2
  · rw [if_pos k2]
    exact key 0 0 0 [] zeroSn (yesR t).1 (by decide) (by decide) (by decide) hne zeroSn_small
  rw [if_neg k2]
  by_cases k3 : kd = 3
  · rw [if_pos k3]
    exact key (numR 8 t).1 (numR 8 (numR 8 t).2).1 (numR 8 (numR 8 (numR 8 t).2).2).1 (entsR (numR 1 (numR 8 (numR 8 (numR 8 t).2).2).2).1.toNat (numR 1 (numR 8 (numR 8 (numR 8 t).2).2).2).2).1 zeroSn yes (numR_lt _ _) (numR_lt _ _) (numR_lt _ _) (entsR_small _ _) zeroSn_small
  rw [if_neg k3]
  by_cases k4 : kd = 4
  · rw [if_pos k4]
    exact key (numR 8 (yesR t).2).1 0 0 [] zeroSn (yesR t).1 (numR_lt _ _) (by decide) (by decide) hne zeroSn_small
  rw [if_neg k4]
  by_cases k5 : kd = 5
  · rw [if_pos k5]
    exact key 0 0 0 [] (snpR t).1 yes (by decide) (by decide) (by decide) hne (snpR_small _)
  rw [if_neg k5]
  exact key 0 0 0 [] zeroSn yes (by decide) (by decide) (by decide) hne zeroSn_small

/-- What Decode tells: the message, if there is one. -/
def goodR (l : List UInt8) : Bool := !(msgR (l, false)).2.2 && decide ((msgR (l, false)).2.1.length = 0) && okMB (msgR (l, false)).1

def decR (l : List UInt8) : MsgM := if goodR l = true then (msgR (l, false)).1 else zeroMs

theorem goodR_parts {l : List UInt8} (h : goodR l = true) : msgR (l, false) = (decR l, [], false) ∧ okMB (decR l) = true := by
  have h0 := h
  unfold goodR at h
  simp only [Bool.and_eq_true, decide_eq_true_eq, Bool.not_eq_true'] at h
  obtain ⟨⟨h1, h2⟩, h3⟩ := h
  unfold decR
  rw [if_pos h0]
  exact ⟨Prod.ext rfl (Prod.ext (List.eq_nil_of_length_eq_zero h2) h1), h3⟩

theorem goodR_mk {l : List UInt8} {m : MsgM} (h : msgR (l, false) = (m, [], false)) (hm : okMB m = true) : goodR l = true ∧ decR l = m := by
  have hg : goodR l = true := by
    unfold goodR
    rw [h]
    simp [hm]
  exact ⟨hg, by unfold decR; rw [if_pos hg, h]⟩

theorem dec_once {l : List UInt8} (h : goodR l = true) : msgW (decR l) = l := by
  obtain ⟨h1, h2⟩ := goodR_parts h
  have h3 := msgR_once h1 (okMB_parts h2).1
  rw [List.append_nil] at h3
  exact (congrArg Prod.fst h3).symm

theorem dec_back {m : MsgM} (h : okMB m = true) (hs : smallM m) : goodR (msgW m) = true ∧ decR (msgW m) = m := by
  have := msgR_back m [] false h hs
  rw [List.append_nil] at this
  exact goodR_mk this h

theorem dec_more {m : MsgM} (h : okMB m = true) (hs : smallM m) (x : UInt8) : goodR (msgW m ++ [x]) = false := by
  unfold goodR
  rw [msgR_back m [x] false h hs]
  rfl

theorem decR_small {l : List UInt8} (h : goodR l = true) : smallM (decR l) := by
  unfold decR
  rw [if_pos h]
  exact msgR_small _

theorem dec_cut {m : MsgM} (h : okMB m = true) (hs : smallM m) {k : Nat} (hk : k < (msgW m).length) : goodR ((msgW m).take k) = false := by
  cases hg : goodR ((msgW m).take k) with
  | false => rfl
  | true =>
    exfalso
    obtain ⟨g1, g2⟩ := goodR_parts hg
    have h3 := dec_once hg
    have h4 := msgR_back m [] false h hs
    have h5 : msgW m = msgW (decR ((msgW m).take k)) ++ (msgW m).drop k := by rw [h3, List.take_append_drop]
    have h6 := msgR_back (decR ((msgW m).take k)) ((msgW m).drop k) false g2 (decR_small hg)
    rw [← h5] at h6
    rw [List.append_nil] at h4
    rw [h4] at h6
    have h7 := congrArg (fun q => q.2.1.length) h6
    simp only [List.length_nil, List.length_drop] at h7
    omega

end Go.Proofs.Ythpljpbiamjmaaa
