/- source in plain words: expressions, their reading, what they match. Written ahead of stage 15's landing: after chapter 15, not after the code. -/
import Derived.Test.YtnecjofgjbfheaaGreatDoorKit
import Derived.Test.YtnecjofgjbfheaaGreatDoorPlain
import Derived.Test.YtnecjofgjbfheaaGreatDoorAsc1
import Derived.Test.YtnecjofgjbfheaaGreatDoorAsc4
import Derived.Test.YtnecjofgjbfheaaGreatDoorRow
import Derived.Test.YtnecjofgjbfheaaGreatDoorPct0
import Derived.Test.YtnecjofgjbfheaaGreatDoorHst0
import Derived.Test.YtnecjofgjbfheaaGreatDoorUrl0
import Derived.Test.YtnecjofgjbfheaaGreatDoorUrl4
import Derived.Test.YtnecjofgjbfheaaGreatDoorUrr1
import Derived.Test.YtnecjofgjbfheaaGreatDoorOrg0
namespace Go.Proofs.YtnecjofgjbfheaaGreatDoor
open Go.RowKit Go.Proofs
set_option maxRecDepth 100000

/-- A source expression. -/
structure ExpM where
  ek : Int
  esc : List UInt8
  eho : List UInt8
  epo : List UInt8
  epa : List UInt8

def expZ : ExpM := ⟨0, [], [], [], []⟩

def labB (c : UInt8) : Bool := isLet c.toNat || isDig c.toNat || c == 45 || c == 95

def labN (l : List UInt8) : Nat := (l.takeWhile labB).length

/-- Behind a label: further labels, each behind a point: how many bytes; none: a point without one. -/
def labsF : Nat → List UInt8 → Option Nat
  | 0, _ => some 0
  | f + 1, r => if r.head? = some 46 then (if labN (r.drop 1) = 0 then none else (labsF f (r.drop (1 + labN (r.drop 1)))).map (fun k => 1 + labN (r.drop 1) + k)) else some 0

def labsN (l : List UInt8) : Nat := if labN l = 0 then 0 else match labsF l.length (l.drop (labN l)) with | none => 0 | some k => labN l + k

def starN (l : List UInt8) : Nat := if (l.drop 1).head? = some 46 then (if labsN (l.drop 2) = 0 then 0 else 2 + labsN (l.drop 2)) else 1

def hostN (l : List UInt8) : Nat := if l.head? = some 42 then starN l else labsN l

def digN (l : List UInt8) : Nat := (l.takeWhile (fun c => isDig c.toNat)).length

/-- A port with its point ahead: how many bytes; none: no port may stand so. -/
def prtN (r : List UInt8) : Option Nat :=
  if r.head? = some 58 then
    (if (r.drop 1).head? = some 42 then some 2 else if digN (r.drop 1) = 0 ∨ 5 < digN (r.drop 1) then none else some (1 + digN (r.drop 1)))
  else some 0

def pcB (c : UInt8) : Bool := decide (33 ≤ c.toNat ∧ c.toNat ≤ 126) && !hasB [63, 35, 59, 44] c

def spathB (p : List UInt8) : Bool := decide (p = [] ∨ p.head? = some 47) && p.all pcB

def selfQ : List UInt8 := [39, 115, 101, 108, 102, 39]

def tailS (sc t : List UInt8) : ExpM :=
  if hostN t = 0 then expZ else
    match prtN (t.drop (hostN t)) with
    | none => expZ
    | some m => if spathB (t.drop (hostN t + m)) = true then ⟨4, sc, lowL (t.take (hostN t)), ((t.drop (hostN t)).take m).drop 1, t.drop (hostN t + m)⟩ else expZ

def quoB (s : List UInt8) : Bool := decide (2 ≤ s.length) && decide (s.head? = some 39) && decide (s.getLast? = some 39)

def srcP (s : List UInt8) : ExpM :=
  if s = [42] then ⟨1, [], [], [], []⟩
  else if lowL s = selfQ then ⟨2, [], [], [], []⟩
  else if quoB s = true then ⟨5, [], [], [], []⟩
  else if 0 < schN s ∧ schN s + 1 = s.length then ⟨3, lowL (s.take (schN s)), [], [], []⟩
  else if 0 < schN s ∧ (s.drop (schN s)).take 3 = [58, 47, 47] then tailS (lowL (s.take (schN s))) (s.drop (schN s + 3))
  else tailS [] s

/-! what matches -/
def smaB (a b : List UInt8) : Bool := decide (a = b) || (decide (a = httpL) && decide (b = httpsL)) || (decide (a = wsL) && (decide (b = wssL) || decide (b = httpL) || decide (b = httpsL))) || (decide (a = wssL) && decide (b = httpsL))

def homeL : List UInt8 := [49, 50, 55, 46, 48, 46, 48, 46, 49]

def hmaB (p h : List UInt8) : Bool :=
  if h = [] then false
  else if p = [42] then true
  else if p.take 2 = [42, 46] then (addressP h).isNone && (decide (p.length - 1 < h.length) && (p.drop 1).isSuffixOf h)
  else decide (p = h) && ((addressP h).isNone || decide (h = homeL))

def digsB (p : List UInt8) : Bool := p.all (fun c => isDig c.toNat)

def valN (p : List UInt8) : Nat := p.foldl (fun n c => 10 * n + (c.toNat - 48)) 0

/-- sch, pt: a URL's scheme and its port as told by url.Port. -/
def pmaB (p sch : List UInt8) (pt : Int) : Bool :=
  if p = [] then (defP sch).2 && decide (pt = (defP sch).1)
  else if p = [42] then true
  else digsB p && (decide ((valN p : Int) = pt) || (decide (valN p = 80) && decide (pt = 443)))

def exactB (p : List UInt8) : Bool := !decide (p.getLast? = some 47)

def partsM (p : List UInt8) : List (List UInt8) := if exactB p = true then splitL p 47 else (splitL p 47).dropLast

def tmaB (p q : List UInt8) : Bool :=
  if p = [] ∨ (p = [47] ∧ q = []) then true
  else if (splitL q 47).length < (splitL p 47).length ∨ (exactB p = true ∧ (splitL p 47).length < (splitL q 47).length) then false
  else ((partsM p).zip (splitL q 47)).all (fun x => decide (decL x.1 = decL x.2))

def normB (sch : List UInt8) (p : Int) : Bool := (defP sch).2 && decide (p = (defP sch).1)

/-- u: scheme, host, port as told by url.Port, path; o: the document's Origin. -/
structure AskM where
  asc : List UInt8
  aho : List UInt8
  apo : Int
  apa : List UInt8

def askU (u : UrlM) : AskM := ⟨u.sch, u.hos, portU u, u.pth⟩

def askO (a : AskM) : OrgM := ⟨a.asc, a.aho, a.apo⟩

def selfM (a : AskM) (o : OrgM) : Bool :=
  sameO o (askO a) || (!decide (noneO o) && (decide (o.oho = a.aho) && ((decide (o.opo = a.apo) || (normB o.osc o.opo && normB a.asc a.apo)) && (decide (a.asc = httpsL) || decide (a.asc = wssL) || (decide (o.osc = httpL) && decide (a.asc = wsL))))))

def schM4 (e : ExpM) (a : AskM) (o : OrgM) : Bool := if e.esc = [] then (decide (noneO o) || smaB o.osc a.asc) else smaB e.esc a.asc

def hostM4 (e : ExpM) (a : AskM) (o : OrgM) (red : Int) : Bool := schM4 e a o && (hmaB e.eho a.aho && (pmaB e.epo a.asc a.apo && (decide (red ≠ 0) || tmaB e.epa a.apa)))

def starM (a : AskM) (o : OrgM) : Bool := decide (a.asc = httpL) || decide (a.asc = httpsL) || decide (a.asc = wsL) || decide (a.asc = wssL) || decide (a.asc = o.osc)

def matB (e : ExpM) (a : AskM) (o : OrgM) (red : Int) : Bool :=
  if e.ek = 1 then starM a o
  else if e.ek = 2 then selfM a o
  else if e.ek = 3 then smaB e.esc a.asc
  else if e.ek = 4 then hostM4 e a o red
  else false

def lstB (l : List (List UInt8)) (a : AskM) (o : OrgM) (red : Int) : Bool := l.any (fun s => matB (srcP s) a o red)

/-! what follows -/
theorem tma_nil (q : List UInt8) : tmaB [] q = true := by
  unfold tmaB
  rw [if_pos (.inl rfl)]

theorem mat_wide (e : ExpM) (a : AskM) (o : OrgM) (red : Int) (hr : red ≠ 0) : matB ⟨e.ek, e.esc, e.eho, e.epo, []⟩ a o 0 = matB e a o red := by
  unfold matB
  dsimp only
  have h4 : hostM4 ⟨e.ek, e.esc, e.eho, e.epo, []⟩ a o 0 = hostM4 e a o red := by
    unfold hostM4
    dsimp only
    rw [tma_nil, decide_eq_true hr, Bool.or_true, Bool.true_or]
    rfl
  rw [h4]

theorem mat_path (e : ExpM) (a : AskM) (o : OrgM) (h : matB e a o 0 = true) : matB ⟨e.ek, e.esc, e.eho, e.epo, []⟩ a o 0 = true := by
  unfold matB at h ⊢
  dsimp only
  by_cases h1 : e.ek = 1
  · rw [if_pos h1] at h ⊢; exact h
  · rw [if_neg h1] at h ⊢
    by_cases h2 : e.ek = 2
    · rw [if_pos h2] at h ⊢; exact h
    · rw [if_neg h2] at h ⊢
      by_cases h3 : e.ek = 3
      · rw [if_pos h3] at h ⊢; exact h
      · rw [if_neg h3] at h ⊢
        by_cases h4 : e.ek = 4
        · rw [if_pos h4] at h ⊢
          unfold hostM4 at h ⊢
          simp only [Bool.and_eq_true] at h ⊢
          exact ⟨h.1, h.2.1, h.2.2.1, by rw [tma_nil, Bool.or_true]⟩
        · rw [if_neg h4] at h
          cases h

theorem sma_safe (b : List UInt8) (h : smaB httpsL b = true) : smaB httpL b = true := by
  unfold smaB at *
  have e1 : decide (httpsL = httpL) = false := by decide
  have e2 : decide (httpsL = wsL) = false := by decide
  have e3 : decide (httpsL = wssL) = false := by decide
  rw [e1, e2, e3] at h
  simp only [Bool.false_and, Bool.or_false, decide_eq_true_eq] at h
  subst h
  decide

theorem same_none (a : OrgM) (o : OrgM) (h : noneO o) : sameO o a = false := by
  unfold sameO
  rw [decide_eq_true h]
  simp

theorem self_zero (a : AskM) : selfM a orgZ = false := by
  have h : noneO orgZ := ⟨rfl, rfl, rfl⟩
  unfold selfM
  rw [same_none _ _ h, decide_eq_true h]
  rfl

theorem self_own (a : AskM) (h : a.asc ≠ []) : selfM a (askO a) = true := by
  unfold selfM sameO askO
  dsimp only
  have hn : ¬ noneO ⟨a.asc, a.aho, a.apo⟩ := fun hh => h hh.1
  rw [decide_eq_false hn]
  simp

theorem self_other (a : AskM) (o : OrgM) (h : o.oho ≠ a.aho) : selfM a o = false := by
  unfold selfM sameO askO
  dsimp only
  rw [decide_eq_false h, decide_eq_false (fun hh => h hh.2.1)]
  simp

theorem lst_one (s : List UInt8) (a : AskM) (o : OrgM) (red : Int) : lstB [s] a o red = matB (srcP s) a o red := by
  unfold lstB
  simp

theorem lst_rev (l : List (List UInt8)) (a : AskM) (o : OrgM) (red : Int) : lstB l.reverse a o red = lstB l a o red := by
  unfold lstB
  rw [List.any_reverse]

theorem key_none (s : List UInt8) (a : AskM) (o : OrgM) (red : Int) (hs : s ≠ [42]) (h1 : lowL s ≠ selfQ) (h2 : quoB s = true) : matB (srcP s) a o red = false := by
  unfold srcP
  rw [if_neg hs, if_neg h1, if_pos h2]
  rfl

/-! how long: what is read is no longer than the text -/
theorem take_tot (l : List UInt8) (k : Nat) : (l.take k).length ≤ l.length := by rw [List.length_take]; omega

theorem tail_size (sc t : List UInt8) : (tailS sc t).eho.length ≤ t.length ∧ (tailS sc t).epo.length ≤ t.length ∧ (tailS sc t).epa.length ≤ t.length ∧ (tailS sc t).esc.length ≤ sc.length := by
  unfold tailS
  split
  · simp [expZ]
  · split
    · simp [expZ]
    · split
      · refine ⟨?_, ?_, ?_, Nat.le_refl _⟩
        · show (lowL _).length ≤ _
          unfold lowL
          rw [List.length_map]
          exact take_tot _ _
        · show (List.drop 1 _).length ≤ _
          rw [List.length_drop]
          have h1 := take_tot (t.drop (hostN t)) (by assumption)
          rw [List.length_drop] at h1
          omega
        · show (List.drop _ _).length ≤ _
          rw [List.length_drop]
          omega
      · simp [expZ]

theorem src_size (s : List UInt8) : (srcP s).esc.length ≤ s.length ∧ (srcP s).eho.length ≤ s.length ∧ (srcP s).epo.length ≤ s.length ∧ (srcP s).epa.length ≤ s.length := by
  have hl : ∀ k, (lowL (s.take k)).length ≤ s.length := fun k => by unfold lowL; rw [List.length_map]; exact take_tot _ _
  unfold srcP
  split
  · simp
  · split
    · simp
    · split
      · simp
      · split
        · exact ⟨hl _, Nat.zero_le _, Nat.zero_le _, Nat.zero_le _⟩
        · split
          · obtain ⟨h1, h2, h3, h4⟩ := tail_size (lowL (s.take (schN s))) (s.drop (schN s + 3))
            have h5 := hl (schN s)
            rw [List.length_drop] at h1 h2 h3
            exact ⟨by omega, by omega, by omega, by omega⟩
          · obtain ⟨h1, h2, h3, h4⟩ := tail_size [] s
            exact ⟨by simp only [List.length_nil] at h4; omega, h1, h2, h3⟩

theorem tw_stop {p : UInt8 → Bool} : ∀ {l : List UInt8} {i : Nat}, (l.take i).all p = true → i ≤ l.length → (∀ c, l[i]? = some c → p c = false) → (l.takeWhile p).length = i
  | [], 0, _, _, _ => rfl
  | [], i + 1, _, h, _ => by simp at h
  | c :: r, 0, _, _, h => by
    have := h c rfl
    rw [List.takeWhile_cons_of_neg (by rw [this]; simp)]
    rfl
  | c :: r, i + 1, ha, hi, h => by
    rw [List.take_succ_cons, List.all_cons, Bool.and_eq_true] at ha
    rw [List.takeWhile_cons_of_pos ha.1, List.length_cons, tw_stop ha.2 (by simpa using hi) (fun d hd => h d (by simpa using hd))]

theorem all_next {p : UInt8 → Bool} {s : ByteArray} {k : Nat} (h : k < s.size) (ha : (s.data.toList.take k).all p = true) (hc : p s[k] = true) : (s.data.toList.take (k + 1)).all p = true := by
  rw [take_snoc s k h, List.all_append, ha, List.all_cons, hc]
  rfl

theorem lab_stop {s : ByteArray} {i : Nat} (ha : (s.data.toList.take i).all labB = true) (hi : i ≤ s.size) (h : ∀ hl : i < s.size, labB s[i] = false) : labN s.data.toList = i := by
  refine tw_stop ha (by rw [size_data]; exact hi) (fun c hc => ?_)
  obtain ⟨h1, h2⟩ := List.getElem?_eq_some_iff.1 hc
  rw [size_data] at h1
  rw [← h2]
  exact h h1

theorem lab_le (l : List UInt8) : labN l ≤ l.length := (List.takeWhile_prefix _).length_le

theorem labsF_more : ∀ (f g : Nat) (r : List UInt8), r.length ≤ f → r.length ≤ g → labsF f r = labsF g r
  | 0, 0, _, _, _ => rfl
  | 0, g + 1, r, hf, _ => by
    have : r = [] := List.eq_nil_of_length_eq_zero (by omega)
    subst this
    simp [labsF]
  | f + 1, 0, r, _, hg => by
    have : r = [] := List.eq_nil_of_length_eq_zero (by omega)
    subst this
    simp [labsF]
  | f + 1, g + 1, r, hf, hg => by
    unfold labsF
    by_cases h : r.head? = some 46
    · rw [if_pos h, if_pos h]
      by_cases h0 : labN (r.drop 1) = 0
      · rw [if_pos h0, if_pos h0]
      · rw [if_neg h0, if_neg h0, labsF_more f g _ (by rw [List.length_drop]; omega) (by rw [List.length_drop]; omega)]
    · rw [if_neg h, if_neg h]

def labsR (r : List UInt8) : Option Nat := labsF r.length r

theorem labsR_end {r : List UInt8} (h : r.head? ≠ some 46) : labsR r = some 0 := by
  unfold labsR
  cases r with
  | nil => rfl
  | cons c t =>
    show labsF (t.length + 1) (c :: t) = _
    unfold labsF
    rw [if_neg h]

theorem labsR_bad {r : List UInt8} (h : r.head? = some 46) (h0 : labN (r.drop 1) = 0) : labsR r = none := by
  unfold labsR
  cases r with
  | nil => cases h
  | cons c t =>
    show labsF (t.length + 1) (c :: t) = _
    unfold labsF
    rw [if_pos h, if_pos h0]

theorem labsR_step {r : List UInt8} (h : r.head? = some 46) {k : Nat} (hk : labN (r.drop 1) = k) (h0 : k ≠ 0) : labsR r = (labsR (r.drop (1 + k))).map (fun j => 1 + k + j) := by
  subst hk
  cases r with
  | nil => cases h
  | cons c t =>
    show labsF (t.length + 1) (c :: t) = _
    unfold labsR
    rw [labsF, if_pos h, if_neg h0, labsF_more t.length _ _ (by rw [List.length_drop, List.length_cons]; omega) (Nat.le_refl _)]

/-- How far a reader of labels has come: n bytes of l. -/
def LabsAt (l : List UInt8) (n : Nat) : Prop := labsN l = (match labsR (l.drop n) with | none => 0 | some k => n + k)

theorem labs_zero {l : List UInt8} (h : labN l = 0) : labsN l = 0 := by unfold labsN; rw [if_pos h]

theorem labs_first {l : List UInt8} (h : labN l ≠ 0) : LabsAt l (labN l) := by
  unfold LabsAt labsN
  rw [if_neg h, show labsF l.length (l.drop (labN l)) = labsR (l.drop (labN l)) from labsF_more _ _ _ (by rw [List.length_drop]; omega) (Nat.le_refl _)]
  all_goals rfl

theorem labs_end {l : List UInt8} {n : Nat} (h : LabsAt l n) (he : (l.drop n).head? ≠ some 46) : labsN l = n := by
  unfold LabsAt at h
  rw [h, labsR_end he]
  rfl

theorem labs_bad {l : List UInt8} {n : Nat} (h : LabsAt l n) (he : (l.drop n).head? = some 46) (h0 : labN (l.drop (n + 1)) = 0) : labsN l = 0 := by
  unfold LabsAt at h
  rw [h, labsR_bad he (by rw [List.drop_drop]; exact h0)]

theorem labs_step {l : List UInt8} {n k : Nat} (h : LabsAt l n) (he : (l.drop n).head? = some 46) (hk : labN (l.drop (n + 1)) = k) (h0 : k ≠ 0) : LabsAt l (n + 1 + k) := by
  unfold LabsAt at h ⊢
  rw [h, labsR_step he (k := k) (by rw [List.drop_drop]; exact hk) h0, List.drop_drop, show n + (1 + k) = n + 1 + k from by omega]
  cases labsR (l.drop (n + 1 + k)) with
  | none => rfl
  | some j =>
    show n + (1 + k + j) = n + 1 + k + j
    omega

theorem labs_le (l : List UInt8) : labsN l ≤ l.length := by
  have key : ∀ (f : Nat) (r : List UInt8) (k : Nat), labsF f r = some k → k ≤ r.length := by
    intro f
    induction f with
    | zero => intro r k h; simp [labsF] at h; omega
    | succ f ih =>
      intro r k h
      unfold labsF at h
      split at h
      · split at h
        · cases h
        · cases hj : labsF f (r.drop (1 + labN (r.drop 1))) with
          | none => rw [hj] at h; cases h
          | some j =>
            rw [hj] at h
            have h1 := ih _ _ hj
            have h2 := lab_le (r.drop 1)
            rw [List.length_drop] at h1 h2
            have h3 : 1 + labN (r.drop 1) + j = k := by simpa using h
            have h4 : r ≠ [] := by rintro rfl; rename_i hh _; cases hh
            have h5 := List.length_pos_iff.2 h4
            omega
      · cases h
        exact Nat.zero_le _
  unfold labsN
  split
  · exact Nat.zero_le _
  · split
    · exact Nat.zero_le _
    · rename_i k hk
      have h1 := key _ _ _ hk
      have h2 := lab_le l
      rw [List.length_drop] at h1
      omega

theorem star_le (l : List UInt8) (h : l ≠ []) : starN l ≤ l.length := by
  have h5 := List.length_pos_iff.2 h
  unfold starN
  split
  · rename_i hd
    have h6 : 2 ≤ l.length := by
      cases l with
      | nil => cases h rfl
      | cons a t => cases t with
        | nil => cases hd
        | cons b t => simp
    split
    · exact Nat.zero_le _
    · have := labs_le (l.drop 2)
      rw [List.length_drop] at this
      omega
  · omega

theorem host_le (l : List UInt8) : hostN l ≤ l.length := by
  unfold hostN
  split
  · exact star_le l (by rintro rfl; rename_i hh; cases hh)
  · exact labs_le l

/-! ports -/
theorem val_snoc (l : List UInt8) (c : UInt8) : valN (l ++ [c]) = 10 * valN l + (c.toNat - 48) := by
  unfold valN
  rw [List.foldl_append]
  rfl

theorem val_mono : ∀ (l : List UInt8) (n : Nat), n ≤ l.foldl (fun n c => 10 * n + (c.toNat - 48)) n
  | [], n => Nat.le_refl _
  | c :: r, n => by
    have := val_mono r (10 * n + (c.toNat - 48))
    rw [List.foldl_cons]
    omega

theorem val_take (l : List UInt8) (k : Nat) : valN (l.take k) ≤ valN l := by
  have h : valN l = (l.drop k).foldl (fun n c => 10 * n + (c.toNat - 48)) (valN (l.take k)) := by
    unfold valN
    rw [← List.foldl_append, List.take_append_drop]
  rw [h]
  exact val_mono _ _

/-- Beyond a port: no port is so great. -/
theorem pma_great {p sch : List UInt8} {pt : Int} (h0 : p ≠ []) (h1 : p ≠ [42]) (hp : pt ≤ 65535) {k : Nat} (hk : 1000000 < valN (p.take k)) : pmaB p sch pt = false := by
  unfold pmaB
  rw [if_neg h0, if_neg h1]
  have h2 := val_take p k
  rw [decide_eq_false (by omega : ¬ (valN p : Int) = pt), decide_eq_false (by omega : ¬ valN p = 80)]
  simp

theorem pma_bad {p sch : List UInt8} {pt : Int} (h0 : p ≠ []) (h1 : p ≠ [42]) (h : digsB p = false) : pmaB p sch pt = false := by
  unfold pmaB
  rw [if_neg h0, if_neg h1, h, Bool.false_and]

theorem pma_digs {p sch : List UInt8} {pt : Int} (h0 : p ≠ []) (h1 : p ≠ [42]) (h : digsB p = true) : pmaB p sch pt = (decide ((valN p : Int) = pt) || (decide (valN p = 80) && decide (pt = 443))) := by
  unfold pmaB
  rw [if_neg h0, if_neg h1, h, Bool.true_and]

/-! paths -/
def zipB (a b : List (List UInt8)) : Bool := (a.zip b).all (fun x => decide (decL x.1 = decL x.2))

theorem zip_yes : ∀ {a b : List (List UInt8)}, (∀ (i : Nat) x y, a[i]? = some x → b[i]? = some y → decL x = decL y) → zipB a b = true
  | [], b, _ => by simp [zipB]
  | x :: r, [], _ => by simp [zipB]
  | x :: r, y :: t, h => by
    have h1 := zip_yes (a := r) (b := t) (fun i u v hu hv => h (i + 1) u v (by simpa using hu) (by simpa using hv))
    have h2 := h 0 x y rfl rfl
    unfold zipB at *
    rw [List.zip_cons_cons, List.all_cons, h1, decide_eq_true h2]
    rfl

theorem zip_no : ∀ {a b : List (List UInt8)} {i : Nat} {x y : List UInt8}, a[i]? = some x → b[i]? = some y → decL x ≠ decL y → zipB a b = false
  | [], b, i, x, y, hx, _, _ => by simp at hx
  | u :: r, [], i, x, y, _, hy, _ => by simp at hy
  | u :: r, v :: t, 0, x, y, hx, hy, h => by
    simp at hx hy
    subst hx hy
    unfold zipB
    rw [List.zip_cons_cons, List.all_cons, decide_eq_false h, Bool.false_and]
  | u :: r, v :: t, i + 1, x, y, hx, hy, h => by
    have h1 := zip_no (a := r) (b := t) (i := i) (by simpa using hx) (by simpa using hy) h
    unfold zipB at *
    rw [List.zip_cons_cons, List.all_cons, h1, Bool.and_false]

theorem tma_easy {p q : List UInt8} (h : p = [] ∨ (p = [47] ∧ q = [])) : tmaB p q = true := by unfold tmaB; rw [if_pos h]

theorem tma_len {p q : List UInt8} (h : ¬ (p = [] ∨ (p = [47] ∧ q = []))) (hl : (splitL q 47).length < (splitL p 47).length ∨ (exactB p = true ∧ (splitL p 47).length < (splitL q 47).length)) : tmaB p q = false := by
  unfold tmaB
  rw [if_neg h, if_pos hl]

theorem tma_zip {p q : List UInt8} (h : ¬ (p = [] ∨ (p = [47] ∧ q = []))) (hl : ¬ ((splitL q 47).length < (splitL p 47).length ∨ (exactB p = true ∧ (splitL p 47).length < (splitL q 47).length))) : tmaB p q = zipB (partsM p) (splitL q 47) := by
  unfold tmaB zipB
  rw [if_neg h, if_neg hl]

theorem parts_len (p : List UInt8) : (partsM p).length = if exactB p = true then (splitL p 47).length else (splitL p 47).length - 1 := by
  unfold partsM
  split
  · rfl
  · rw [List.length_dropLast]

theorem parts_pre (p : List UInt8) : ∃ k, partsM p = (splitL p 47).take k := by
  unfold partsM
  split
  · exact ⟨(splitL p 47).length, by rw [List.take_length]⟩
  · exact ⟨(splitL p 47).length - 1, List.dropLast_eq_take⟩

def hosB (c : UInt8) : Bool := labB c || c == 46 || c == 42

def hosK (l : List UInt8) : Nat := (l.takeWhile hosB).length

def goodH (l : List UInt8) : Bool := (splitL l 46).all (fun p => decide (p ≠ []) && p.all labB)

def trimS (h : List UInt8) : List UInt8 := if h.take 2 = [42, 46] then h.drop 2 else h

def okH (h : List UInt8) : Bool := decide (h = [42]) || goodH (trimS h)

theorem lab_dot : labB 46 = false := by decide

theorem lab_star : labB 42 = false := by decide

theorem hos_cases {c : UInt8} (h : hosB c = true) (hl : labB c = false) : c = 46 ∨ c = 42 := by
  unfold hosB at h
  rw [hl, Bool.false_or, Bool.or_eq_true] at h
  exact h.imp (fun x => by simpa using x) (fun x => by simpa using x)

theorem hos_lab {c : UInt8} (h : hosB c = false) : labB c = false := by
  unfold hosB at h
  rw [Bool.or_eq_false_iff, Bool.or_eq_false_iff] at h
  exact h.1.1

theorem goodH_free {p : List UInt8} (h : (46 : UInt8) ∉ p) : goodH p = (decide (p ≠ []) && p.all labB) := by
  unfold goodH splitL
  rw [splitGo_none 46 p [] h]
  simp

theorem goodH_pre {p : List UInt8} (h : (46 : UInt8) ∉ p) (r : List UInt8) : goodH (p ++ 46 :: r) = ((decide (p ≠ []) && p.all labB) && goodH r) := by
  unfold goodH splitL
  rw [splitGo_pre 46 p [] r h]
  simp

theorem dot_free {p : List UInt8} (h : ∀ c ∈ p, labB c = true) : (46 : UInt8) ∉ p := fun hm => by
  have := h 46 hm
  rw [lab_dot] at this
  cases this

theorem first_dot : ∀ (t : List UInt8), (46 : UInt8) ∉ t ∨ ∃ a b, t = a ++ 46 :: b ∧ (46 : UInt8) ∉ a
  | [] => .inl (by simp)
  | c :: r => by
    by_cases hc : c = 46
    · exact .inr ⟨[], r, by rw [hc]; rfl, by simp⟩
    · rcases first_dot r with h | ⟨a, b, h, ha⟩
      · exact .inl (by
          intro hm
          rcases List.mem_cons.1 hm with rfl | hm
          · exact hc rfl
          · exact h hm)
      · refine .inr ⟨c :: a, b, by rw [h]; rfl, ?_⟩
        intro hm
        rcases List.mem_cons.1 hm with rfl | hm
        · exact hc rfl
        · exact ha hm

theorem goodH_star {p : List UInt8} (h : (46 : UInt8) ∉ p) (t : List UInt8) : goodH (p ++ 42 :: t) = false := by
  have hf : ∀ a : List UInt8, (p ++ 42 :: a).all labB = false := fun a => by
    rw [List.all_append, List.all_cons, lab_star, Bool.false_and, Bool.and_false]
  rcases first_dot t with ht | ⟨a, b, rfl, ha⟩
  · rw [goodH_free (by
      intro hm
      rcases List.mem_append.1 hm with hm | hm
      · exact h hm
      · rcases List.mem_cons.1 hm with hm | hm
        · exact absurd hm (by decide)
        · exact ht hm), hf, Bool.and_false]
  · rw [show p ++ 42 :: (a ++ 46 :: b) = (p ++ 42 :: a) ++ 46 :: b from by simp, goodH_pre (by
      intro hm
      rcases List.mem_append.1 hm with hm | hm
      · exact h hm
      · rcases List.mem_cons.1 hm with hm | hm
        · exact absurd hm (by decide)
        · exact ha hm), hf, Bool.and_false, Bool.false_and]

theorem labN_app {p r : List UInt8} (hp : ∀ c ∈ p, labB c = true) (hr : r = [] ∨ ∃ c t, r = c :: t ∧ labB c = false) : labN (p ++ r) = p.length := by
  unfold labN
  rw [tw_all hp hr]

theorem labsN_end {p r : List UInt8} (hp : ∀ c ∈ p, labB c = true) (h0 : p ≠ []) (hr : r = [] ∨ ∃ c t, r = c :: t ∧ labB c = false) (h46 : r.head? ≠ some 46) : labsN (p ++ r) = p.length := by
  have h1 := labN_app hp hr
  have h2 : labN (p ++ r) ≠ 0 := by rw [h1]; exact fun e => h0 (List.eq_nil_of_length_eq_zero e)
  have h3 := labs_first h2
  rw [h1] at h3
  exact labs_end h3 (by rw [List.drop_left]; exact h46)

theorem labsN_dot {p x : List UInt8} (hp : ∀ c ∈ p, labB c = true) (h0 : p ≠ []) : labsN (p ++ 46 :: x) = if labsN x = 0 then 0 else p.length + 1 + labsN x := by
  have h1 := labN_app (r := 46 :: x) hp (.inr ⟨46, x, rfl, lab_dot⟩)
  have h2 : labN (p ++ 46 :: x) ≠ 0 := by rw [h1]; exact fun e => h0 (List.eq_nil_of_length_eq_zero e)
  have h3 := labs_first h2
  rw [h1] at h3
  have hd : (p ++ 46 :: x).drop p.length = 46 :: x := List.drop_left
  have hd1 : (p ++ 46 :: x).drop (p.length + 1) = x := by
    rw [← List.drop_drop, hd]
    rfl
  by_cases hx : labN x = 0
  · rw [labs_bad h3 (by rw [hd]; rfl) (by rw [hd1]; exact hx), labs_zero hx, if_pos rfl]
  · have h4 := labs_first hx
    have h5 := labs_step h3 (by rw [hd]; rfl) (k := labN x) (by rw [hd1]) hx
    unfold LabsAt at h4 h5
    rw [← List.drop_drop, hd1] at h5
    rw [h4, h5]
    cases labsR (x.drop (labN x)) with
    | none => rfl
    | some k =>
      show p.length + 1 + labN x + k = if labN x + k = 0 then 0 else p.length + 1 + (labN x + k)
      rw [if_neg (by omega)]
      omega

theorem hos_labs : ∀ (n : Nat) (l r : List UInt8), l.length ≤ n → (∀ c ∈ l, hosB c = true) → (r = [] ∨ ∃ c t, r = c :: t ∧ hosB c = false) → (goodH l = true → labsN (l ++ r) = l.length ∧ l ≠ []) ∧ (goodH l = false → labsN (l ++ r) = 0 ∨ labsN (l ++ r) < l.length) := by
  intro n
  induction n with
  | zero =>
    intro l r hn _ hr
    have : l = [] := List.eq_nil_of_length_eq_zero (by omega)
    subst this
    refine ⟨fun h => absurd h (by decide), fun _ => .inl ?_⟩
    apply labs_zero
    have := labN_app (p := []) (r := r) (fun c hc => by cases hc) (hr.imp id (fun ⟨c, t, e, hc⟩ => ⟨c, t, e, hos_lab hc⟩))
    exact this
  | succ n ih =>
    intro l r hn hl hr
    have hrl : r = [] ∨ ∃ c t, r = c :: t ∧ labB c = false := hr.imp id (fun ⟨c, t, e, hc⟩ => ⟨c, t, e, hos_lab hc⟩)
    have hr46 : r.head? ≠ some 46 := by
      rcases hr with rfl | ⟨c, t, rfl, hc⟩
      · simp
      · intro e
        have : c = 46 := by simpa using e
        subst this
        exact absurd hc (by decide)
    obtain ⟨p, hp⟩ : ∃ p, p = l.takeWhile labB := ⟨_, rfl⟩
    obtain ⟨q, hq⟩ : ∃ q, q = l.dropWhile labB := ⟨_, rfl⟩
    have hlq : l = p ++ q := by rw [hp, hq, List.takeWhile_append_dropWhile]
    have hpl : ∀ c ∈ p, labB c = true := by
      intro c hc
      rw [hp] at hc
      exact List.all_eq_true.1 (List.all_takeWhile (p := labB) (l := l)) c hc
    have hp46 := dot_free hpl
    have hpa : p.all labB = true := List.all_eq_true.2 hpl
    cases q with
    | nil =>
      rw [List.append_nil] at hlq
      subst hlq
      by_cases h0 : l = []
      · subst h0
        refine ⟨fun h => absurd h (by decide), fun _ => .inl (labs_zero ?_)⟩
        exact labN_app (p := []) (r := r) (fun c hc => by cases hc) hrl
      · refine ⟨fun _ => ⟨labsN_end hpl h0 hrl hr46, h0⟩, fun h => ?_⟩
        rw [goodH_free hp46, hpa, decide_eq_true h0] at h
        cases h
    | cons c t =>
      have hcl : labB c = false := by
        have := List.head?_dropWhile_not labB l
        rw [← hq] at this
        simpa using this
      have hch : hosB c = true := hl c (by rw [hlq]; simp)
      have hts : ∀ d ∈ t, hosB d = true := fun d hd => hl d (by rw [hlq]; simp [hd])
      have hlen : l.length = p.length + 1 + t.length := by rw [hlq]; simp; omega
      have htn : t.length ≤ n := by omega
      by_cases h0 : p = []
      · have hz : labsN (l ++ r) = 0 := by
          apply labs_zero
          rw [hlq, h0]
          exact labN_app (p := []) (fun c hc => by cases hc) (.inr ⟨c, t ++ r, rfl, hcl⟩)
        refine ⟨fun h => ?_, fun _ => .inl hz⟩
        exfalso
        rcases hos_cases hch hcl with rfl | rfl
        · rw [hlq, goodH_pre hp46, h0] at h
          cases h
        · rw [hlq, goodH_star hp46] at h
          cases h
      · rcases hos_cases hch hcl with rfl | rfl
        · obtain ⟨i1, i2⟩ := ih t r htn hts hr
          have e : l ++ r = p ++ 46 :: (t ++ r) := by rw [hlq]; simp
          have hd := labsN_dot (p := p) (x := t ++ r) hpl h0
          rw [e, hd]
          have hg : goodH l = goodH t := by rw [hlq, goodH_pre hp46, hpa, decide_eq_true h0]; rfl
          refine ⟨fun h => ?_, fun h => ?_⟩
          · obtain ⟨j1, j2⟩ := i1 (hg ▸ h)
            have := List.length_pos_iff.2 j2
            rw [j1, if_neg (by omega), hlen]
            exact ⟨rfl, by rw [hlq]; simp⟩
          · have j := i2 (hg ▸ h)
            by_cases hz : labsN (t ++ r) = 0
            · rw [if_pos hz]; exact .inl rfl
            · rw [if_neg hz]
              right
              omega
        · refine ⟨fun h => ?_, fun _ => .inr ?_⟩
          · rw [hlq, goodH_star hp46] at h
            cases h
          · rw [show l ++ r = p ++ 42 :: (t ++ r) from by rw [hlq]; simp, labsN_end hpl h0 (.inr ⟨42, t ++ r, rfl, lab_star⟩) (by simp)]
            omega

theorem hosK_le (t : List UInt8) : hosK t ≤ t.length := (List.takeWhile_prefix _).length_le

theorem hos_parts (t : List UInt8) : ∃ h r, t = h ++ r ∧ t.take (hosK t) = h ∧ t.drop (hosK t) = r ∧ hosK t = h.length ∧ (∀ c ∈ h, hosB c = true) ∧ (r = [] ∨ ∃ c s, r = c :: s ∧ hosB c = false) := by
  have e : t = t.takeWhile hosB ++ t.dropWhile hosB := (List.takeWhile_append_dropWhile).symm
  refine ⟨t.takeWhile hosB, t.dropWhile hosB, e, ?_, ?_, rfl, ?_, ?_⟩
  · unfold hosK
    conv => lhs; rw [e]
    rw [← e, show List.take (t.takeWhile hosB).length t = t.takeWhile hosB from by
      conv => lhs; arg 2; rw [e]
      exact List.take_left]
  · unfold hosK
    conv => lhs; arg 2; rw [e]
    exact List.drop_left
  · intro c hc
    exact List.all_eq_true.1 (List.all_takeWhile (p := hosB) (l := t)) c hc
  · cases h : t.dropWhile hosB with
    | nil => exact .inl rfl
    | cons c s =>
      refine .inr ⟨c, s, rfl, ?_⟩
      have := List.head?_dropWhile_not hosB t
      rw [h] at this
      simpa using this

theorem host_code (t : List UInt8) : (okH (t.take (hosK t)) = true → hostN t = hosK t ∧ hosK t ≠ 0) ∧ (okH (t.take (hosK t)) = false → hostN t = 0 ∨ hostN t < hosK t) := by
  obtain ⟨h, r, e, ht, _, hk, hh, hr⟩ := hos_parts t
  rw [ht, hk, e]
  cases h with
  | nil =>
    have hn : hostN ([] ++ r) = 0 := by
      rw [List.nil_append]
      have hl : labN r = 0 := labN_app (p := []) (fun c hc => by cases hc) (hr.imp id (fun ⟨c, t, e, hc⟩ => ⟨c, t, e, hos_lab hc⟩))
      unfold hostN
      rw [if_neg, labs_zero hl]
      rcases hr with rfl | ⟨c, s, rfl, hc⟩
      · simp
      · intro e
        have : c = 42 := by simpa using e
        subst this
        exact absurd hc (by decide)
    refine ⟨fun h => absurd h (by decide), fun _ => .inl hn⟩
  | cons c s =>
    by_cases hc : c = 42
    · subst hc
      have e1 : hostN (42 :: s ++ r) = starN (42 :: s ++ r) := by unfold hostN; exact if_pos rfl
      rw [e1]
      have hd1 : (42 :: s ++ r).drop 1 = s ++ r := rfl
      cases s with
      | nil =>
        have hs1 : starN ([42] ++ r) = 1 := by
          unfold starN
          rw [if_neg]
          rcases hr with rfl | ⟨c, s, rfl, hc⟩
          · simp
          · intro e
            have : c = 46 := by simpa using e
            subst this
            exact absurd hc (by decide)
        exact ⟨fun _ => ⟨hs1, by simp⟩, fun h => absurd h (by decide)⟩
      | cons d u =>
        by_cases hd : d = 46
        · subst hd
          have hst : starN (42 :: 46 :: u ++ r) = if labsN (u ++ r) = 0 then 0 else 2 + labsN (u ++ r) := by
            unfold starN
            exact if_pos rfl
          have hok : okH (42 :: 46 :: u) = goodH u := by
            unfold okH trimS
            rw [decide_eq_false (by simp), Bool.false_or]
            exact congrArg goodH (if_pos rfl)
          obtain ⟨i1, i2⟩ := hos_labs u.length u r (Nat.le_refl _) (fun x hx => hh x (by simp [hx])) hr
          rw [hst, hok]
          refine ⟨fun h => ?_, fun h => ?_⟩
          · obtain ⟨j1, j2⟩ := i1 h
            have := List.length_pos_iff.2 j2
            rw [j1, if_neg (by omega)]
            simp
            omega
          · have j := i2 h
            by_cases hz : labsN (u ++ r) = 0
            · rw [if_pos hz]; exact .inl rfl
            · rw [if_neg hz]
              right
              simp
              omega
        · have hst : starN (42 :: d :: u ++ r) = 1 := by
            unfold starN
            rw [if_neg]
            intro e
            exact hd (by simpa using e)
          have hok : okH (42 :: d :: u) = false := by
            unfold okH trimS
            rw [decide_eq_false (by simp), if_neg (by
              intro e
              have : d = 46 := by simpa using e
              exact hd this)]
            exact goodH_star (p := []) (by simp) (d :: u)
          rw [hst, hok]
          exact ⟨fun h => absurd h (by decide), fun _ => .inr (by simp)⟩
    · have e1 : hostN (c :: s ++ r) = labsN (c :: s ++ r) := by
        unfold hostN
        rw [if_neg]
        intro e
        exact hc (by simpa using e)
      have hok : okH (c :: s) = goodH (c :: s) := by
        unfold okH trimS
        rw [decide_eq_false (by intro e; injection e with e _; exact hc e), if_neg (by
          intro e
          cases s with
          | nil => simp at e
          | cons d u =>
            have : c = 42 := by simp at e; exact e.1
            exact hc this)]
        rfl
      obtain ⟨i1, i2⟩ := hos_labs (c :: s).length (c :: s) r (Nat.le_refl _) hh hr
      rw [e1, hok]
      exact ⟨fun h => ⟨(i1 h).1, by simp⟩, i2⟩

/-- Behind the host pattern. -/
def behS (sc h r : List UInt8) : ExpM :=
  match prtN r with
  | none => expZ
  | some m => if spathB (r.drop m) = true then ⟨4, sc, lowL h, (r.take m).drop 1, r.drop m⟩ else expZ

theorem tail_code (sc t : List UInt8) : tailS sc t = if okH (t.take (hosK t)) = true then behS sc (t.take (hosK t)) (t.drop (hosK t)) else expZ := by
  obtain ⟨i1, i2⟩ := host_code t
  by_cases h : okH (t.take (hosK t)) = true
  · obtain ⟨j1, j2⟩ := i1 h
    rw [if_pos h]
    unfold tailS behS
    rw [j1, if_neg j2]
    simp only [List.drop_drop]
    all_goals rfl
  · rw [if_neg h]
    have h' : okH (t.take (hosK t)) = false := by simpa using h
    rcases i2 h' with hz | hz
    · unfold tailS
      rw [if_pos hz]
    · by_cases hz0 : hostN t = 0
      · unfold tailS
        rw [if_pos hz0]
      obtain ⟨a, r, e, _, _, hk, hh, _⟩ := hos_parts t
      rw [hk] at hz
      obtain ⟨c, hcm, u, hu⟩ : ∃ c, c ∈ a ∧ ∃ u, t.drop (hostN t) = c :: u := by
        have e2 : t.drop (hostN t) = a.drop (hostN t) ++ r := by
          conv => lhs; arg 2; rw [e]
          exact List.drop_append_of_le_length (by omega)
        cases ha : a.drop (hostN t) with
        | nil =>
          have := congrArg List.length ha
          rw [List.length_drop] at this
          simp at this
          omega
        | cons c u =>
          exact ⟨c, List.mem_of_mem_drop (by rw [ha]; simp : c ∈ a.drop (hostN t)), u ++ r, by rw [e2, ha]; rfl⟩
      have hc := hh c hcm
      have h58 : c ≠ 58 := by rintro rfl; exact absurd hc (by decide)
      have h47 : c ≠ 47 := by rintro rfl; exact absurd hc (by decide)
      have hp : prtN (c :: u) = some 0 := by
        unfold prtN
        rw [if_neg]
        intro e
        exact h58 (by simpa using e)
      have hs : spathB (c :: u) = false := by
        unfold spathB
        rw [decide_eq_false, Bool.false_and]
        rintro (e | e)
        · cases e
        · exact h47 (by simpa using e)
      unfold tailS
      rw [if_neg hz0, hu, hp]
      simp only [Nat.add_zero, hu, hs]
      rfl

def schSet : List UInt8 := [65, 66, 67, 68, 69, 70, 71, 72, 73, 74, 75, 76, 77, 78, 79, 80, 81, 82, 83, 84, 85, 86, 87, 88, 89, 90, 97, 98, 99, 100, 101, 102, 103, 104, 105, 106, 107, 108, 109, 110, 111, 112, 113, 114, 115, 116, 117, 118, 119, 120, 121, 122, 48, 49, 50, 51, 52, 53, 54, 55, 56, 57, 43, 45, 46]

def letSet : List UInt8 := [65, 66, 67, 68, 69, 70, 71, 72, 73, 74, 75, 76, 77, 78, 79, 80, 81, 82, 83, 84, 85, 86, 87, 88, 89, 90, 97, 98, 99, 100, 101, 102, 103, 104, 105, 106, 107, 108, 109, 110, 111, 112, 113, 114, 115, 116, 117, 118, 119, 120, 121, 122]

def labSet : List UInt8 := [65, 66, 67, 68, 69, 70, 71, 72, 73, 74, 75, 76, 77, 78, 79, 80, 81, 82, 83, 84, 85, 86, 87, 88, 89, 90, 97, 98, 99, 100, 101, 102, 103, 104, 105, 106, 107, 108, 109, 110, 111, 112, 113, 114, 115, 116, 117, 118, 119, 120, 121, 122, 48, 49, 50, 51, 52, 53, 54, 55, 56, 57, 45, 95]

def hosSet : List UInt8 := [65, 66, 67, 68, 69, 70, 71, 72, 73, 74, 75, 76, 77, 78, 79, 80, 81, 82, 83, 84, 85, 86, 87, 88, 89, 90, 97, 98, 99, 100, 101, 102, 103, 104, 105, 106, 107, 108, 109, 110, 111, 112, 113, 114, 115, 116, 117, 118, 119, 120, 121, 122, 48, 49, 50, 51, 52, 53, 54, 55, 56, 57, 45, 95, 46, 42]

def digSet : List UInt8 := [48, 49, 50, 51, 52, 53, 54, 55, 56, 57]

theorem sch_set (c : UInt8) : hasB schSet c = schB c := byte_all (p := fun c => hasB schSet c = schB c) (by decide +kernel) c

theorem let_set (c : UInt8) : hasB letSet c = isLet c.toNat := byte_all (p := fun c => hasB letSet c = isLet c.toNat) (by decide +kernel) c

theorem lab_set (c : UInt8) : hasB labSet c = labB c := byte_all (p := fun c => hasB labSet c = labB c) (by decide +kernel) c

theorem hos_set (c : UInt8) : hasB hosSet c = hosB c := byte_all (p := fun c => hasB hosSet c = hosB c) (by decide +kernel) c

theorem dig_set (c : UInt8) : hasB digSet c = isDig c.toNat := byte_all (p := fun c => hasB digSet c = isDig c.toNat) (by decide +kernel) c

theorem tw_len_take (p : UInt8 → Bool) (l : List UInt8) : l.take (l.takeWhile p).length = l.takeWhile p := by
  conv => lhs; arg 2; rw [← List.takeWhile_append_dropWhile (p := p) (l := l)]
  exact List.take_left

theorem tw_len_drop (p : UInt8 → Bool) (l : List UInt8) : l.drop (l.takeWhile p).length = l.dropWhile p := by
  conv => lhs; arg 2; rw [← List.takeWhile_append_dropWhile (p := p) (l := l)]
  exact List.drop_left

/-- How many bytes of a scheme stand there, as the code takes them. -/
def schT (l : List UInt8) : Nat := (l.takeWhile schB).length

/-- Whether a letter stands first. -/
def letH (l : List UInt8) : Bool := match l with | [] => false | c :: _ => isLet c.toNat

theorem letH_pos {l : List UInt8} (h : letH l = true) : 0 < schT l ∧ schT l = schK l := by
  cases l with
  | nil => cases h
  | cons c r =>
    have hc : schB c = true := let_sch h
    have e : schT (c :: r) = schK (c :: r) := by
      unfold schT schK
      rw [List.takeWhile_cons_of_pos hc]
      rfl
    refine ⟨?_, e⟩
    rw [e]
    unfold schK
    omega

theorem schN_eq (l : List UInt8) : schN l = if letH l = true ∧ (l.drop (schT l)).head? = some 58 then schT l else 0 := by
  unfold schN
  cases l with
  | nil => simp [letH]
  | cons c r =>
    by_cases hc : isLet c.toNat = true
    · have h : letH (c :: r) = true := hc
      obtain ⟨_, e⟩ := letH_pos h
      rw [e]
      have e2 : ((c :: r).drop (schK (c :: r))).head? = (c :: r)[schK (c :: r)]? := by rw [List.head?_drop]
      rw [e2]
      by_cases hq : (c :: r)[schK (c :: r)]? = some 58
      · rw [if_pos ⟨by simp, hc, hq⟩, if_pos ⟨h, hq⟩]
      · rw [if_neg (fun x => hq x.2.2), if_neg (fun x => hq x.2)]
    · rw [if_neg (fun x => hc x.2.1), if_neg (fun x => hc x.1)]

theorem sch_one (l : List UInt8) : (letH l && ([58] : List UInt8).isPrefixOf (l.drop (schT l))) = decide (0 < schN l) := by
  rw [schN_eq]
  by_cases h : letH l = true
  · obtain ⟨h0, _⟩ := letH_pos h
    rw [h, Bool.true_and]
    cases hd : l.drop (schT l) with
    | nil => simp
    | cons c r =>
      by_cases hc : c = 58
      · subst hc
        rw [if_pos ⟨rfl, rfl⟩, decide_eq_true h0]
        rfl
      · rw [if_neg (by simp [hc])]
        simp [List.isPrefixOf, Ne.symm hc]
  · have h' : letH l = false := by simpa using h
    rw [h', if_neg (by simp)]
    rfl

theorem take_pre (p l : List UInt8) : p.isPrefixOf l = decide (l.take p.length = p) := by
  rw [Bool.eq_iff_iff, List.isPrefixOf_iff_prefix, decide_eq_true_eq, List.prefix_iff_eq_take]
  exact eq_comm

theorem sch_three (l : List UInt8) : (letH l && ([58, 47, 47] : List UInt8).isPrefixOf (l.drop (schT l))) = decide (0 < schN l ∧ (l.drop (schN l)).take 3 = [58, 47, 47]) := by
  rw [schN_eq, take_pre]
  by_cases h : letH l = true
  · obtain ⟨h0, _⟩ := letH_pos h
    rw [h, Bool.true_and]
    by_cases h3 : (l.drop (schT l)).take 3 = [58, 47, 47]
    · have hh : (l.drop (schT l)).head? = some 58 := by
        cases hd : l.drop (schT l) with
        | nil => rw [hd] at h3; cases h3
        | cons c r =>
          rw [hd] at h3
          have : c = 58 := by simpa using (List.cons.inj h3).1
          rw [this]
          rfl
      rw [if_pos ⟨rfl, hh⟩]
      show decide ((l.drop (schT l)).take 3 = [58, 47, 47]) = _
      rw [decide_eq_true h3, decide_eq_true ⟨h0, h3⟩]
    · show decide ((l.drop (schT l)).take 3 = [58, 47, 47]) = _
      rw [decide_eq_false h3, eq_comm, decide_eq_false]
      rintro ⟨a, b⟩
      split at b
      · exact h3 b
      · rename_i hn
        rw [if_neg hn] at a
        omega
  · have h' : letH l = false := by simpa using h
    rw [h', if_neg (by simp)]
    rfl

theorem schN_t {l : List UInt8} (h : 0 < schN l) : schN l = schT l := by
  rw [schN_eq] at h ⊢
  split
  · rfl
  · rename_i hn
    rw [if_neg hn] at h
    omega

/-! ports -/
theorem dig_bd2 {c : UInt8} (h : isDig c.toNat = true) : 48 ≤ c.toNat ∧ c.toNat ≤ 57 := by
  have := isDig_bd h
  omega

theorem val_num_from : ∀ (l : List UInt8) (n : Nat), digsB l = true → ((l.foldl (fun n c => 10 * n + (c.toNat - 48)) n : Nat) : Int) = l.foldl (fun n c => 10 * n + ((c.toNat : Int) - 48)) (n : Int)
  | [], n, _ => rfl
  | c :: r, n, h => by
    unfold digsB at h
    rw [List.all_cons, Bool.and_eq_true] at h
    have hb := dig_bd2 h.1
    rw [List.foldl_cons, List.foldl_cons, val_num_from r _ h.2]
    congr 1
    omega

theorem val_num {l : List UInt8} (h : digsB l = true) : (valN l : Int) = numVal l := val_num_from l 0 h

theorem val_zeros : ∀ l : List UInt8, valN (zerosL l) = valN l ∧ digsB (zerosL l) = digsB l
  | [] => ⟨rfl, rfl⟩
  | c :: r => by
    by_cases hc : c = 48
    · subst hc
      obtain ⟨i1, i2⟩ := val_zeros r
      have e : zerosL (48 :: r) = zerosL r := rfl
      rw [e, i1, i2]
      exact ⟨rfl, rfl⟩
    · have e : zerosL (c :: r) = c :: r := by
        unfold zerosL
        rw [List.dropWhile_cons_of_neg (by simpa using hc)]
      rw [e]
      exact ⟨rfl, rfl⟩

/-- What the code makes of the digits of a port. -/
def sprtI (p : List UInt8) : Int := if zerosL p = [] then 0 else numN (zerosL p) 8

def sprtB (p : List UInt8) : Bool := if zerosL p = [] then true else numOk (zerosL p) 8 && decide (numN (zerosL p) 8 ≤ 10000009)

theorem sprt_small (p : List UInt8) (h : p.length ≤ 5) : (digsB p = true → sprtB p = true ∧ sprtI p = (valN p : Int)) ∧ (digsB p = false → sprtB p = false) := by
  obtain ⟨hv, hd⟩ := val_zeros p
  have hl := zeros_len p
  have hh := zeros_head p
  unfold sprtB sprtI
  rw [← hd, ← hv]
  by_cases h0 : zerosL p = []
  · rw [if_pos h0, if_pos h0, h0]
    exact ⟨fun _ => ⟨rfl, rfl⟩, fun h => absurd h (by decide)⟩
  · rw [if_neg h0, if_neg h0]
    refine ⟨fun h1 => ?_, fun h1 => ?_⟩
    · have hok : numOk (zerosL p) 8 = true := by
        unfold numOk
        rw [decide_eq_true ⟨h0, by omega, by omega, fun e => absurd e hh⟩]
        exact h1
      have hn : numN (zerosL p) 8 = numVal (zerosL p) := by unfold numN; rw [if_pos hok]
      have hb := (numVal_bd (zerosL p) h1).2
      have hp : (10 : Int) ^ (zerosL p).length ≤ 10 ^ 5 := by
        have : (10 : Nat) ^ (zerosL p).length ≤ 10 ^ 5 := Nat.pow_le_pow_right (by omega) (by omega)
        exact_mod_cast this
      rw [hok, hn, val_num h1, Bool.true_and, decide_eq_true (by omega)]
      exact ⟨rfl, rfl⟩
    · have hok : numOk (zerosL p) 8 = false := by
        unfold numOk
        rw [show (zerosL p).all (fun c => isDig c.toNat) = false from h1, Bool.and_false]
      rw [hok, Bool.false_and]

theorem pma_code {p sch : List UInt8} {pt : Int} (h0 : p ≠ []) (h1 : p ≠ [42]) (h : p.length ≤ 5) : pmaB p sch pt = (sprtB p && (decide (sprtI p = pt) || (decide (sprtI p = 80) && decide (pt = 443)))) := by
  obtain ⟨a, b⟩ := sprt_small p h
  by_cases hd : digsB p = true
  · obtain ⟨a1, a2⟩ := a hd
    have e : decide ((valN p : Int) = 80) = decide (valN p = 80) := by
      rw [Bool.eq_iff_iff, decide_eq_true_eq, decide_eq_true_eq]
      omega
    rw [pma_digs h0 h1 hd, a1, a2, Bool.true_and, e]
  · have hd' : digsB p = false := by simpa using hd
    rw [pma_bad h0 h1 hd', b hd', Bool.false_and]

/-- Behind the host pattern: a port. -/
theorem prt_no {r : List UInt8} (h : r.head? ≠ some 58) : prtN r = some 0 := by unfold prtN; rw [if_neg h]

theorem prt_star {r : List UInt8} (h : r.head? = some 58) (hs : (r.drop 1).head? = some 42) : prtN r = some 2 := by unfold prtN; rw [if_pos h, if_pos hs]

theorem prt_digs {r : List UInt8} (h : r.head? = some 58) (hs : (r.drop 1).head? ≠ some 42) : prtN r = if digN (r.drop 1) = 0 ∨ 5 < digN (r.drop 1) then none else some (1 + digN (r.drop 1)) := by unfold prtN; rw [if_pos h, if_neg hs]

theorem prt_len {r : List UInt8} {m : Nat} (h : prtN r = some m) : ((r.take m).drop 1).length ≤ 5 := by
  unfold prtN at h
  rw [List.length_drop, List.length_take]
  split at h
  · split at h
    · injection h with h
      omega
    · split at h
      · cases h
      · injection h with h
        omega
  · injection h with h
    omega

theorem src_port (s : List UInt8) : (srcP s).epo.length ≤ 5 := by
  have ht : ∀ sc t, (tailS sc t).epo.length ≤ 5 := by
    intro sc t
    unfold tailS
    split
    · exact Nat.zero_le _
    · split
      · exact Nat.zero_le _
      · rename_i m hm
        split
        · exact prt_len hm
        · exact Nat.zero_le _
  unfold srcP
  split
  · exact Nat.zero_le _
  · split
    · exact Nat.zero_le _
    · split
      · exact Nat.zero_le _
      · split
        · exact Nat.zero_le _
        · split
          · exact ht _ _
          · exact ht _ _

/-! paths -/
theorem path_step {p : List UInt8} (h : p ≠ []) : spathB p = (decide (p.head? = some 47) && (p.drop 1).all pcB) := by
  unfold spathB
  cases p with
  | nil => exact absurd rfl h
  | cons c r =>
    by_cases hc : c = 47
    · subst hc
      rw [decide_eq_true (.inr rfl), decide_eq_true (show ((47 : UInt8) :: r).head? = some 47 from rfl), Bool.true_and, Bool.true_and, List.all_cons, show pcB 47 = true from by decide, Bool.true_and]
      rfl
    · have e1 : ¬ ((c :: r) = [] ∨ (c :: r).head? = some 47) := by
        rintro (e | e)
        · cases e
        · exact hc (by simpa using e)
      rw [decide_eq_false e1, decide_eq_false (fun e => e1 (.inr e)), Bool.false_and, Bool.false_and]

end Go.Proofs.YtnecjofgjbfheaaGreatDoor
