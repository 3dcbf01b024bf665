/- Hosts and addresses in plain words: parts, numbers, addresses, what is written of an address, the host itself; what was read is read as itself. -/
import Derived.Lib.ItoaNum
import Derived.Test.YtnecjofgjbfheaaGreatDoorKit
import Derived.Test.YtnecjofgjbfheaaGreatDoorPlain
import Derived.Test.YtnecjofgjbfheaaGreatDoorAsc1
import Derived.Test.YtnecjofgjbfheaaGreatDoorAsc4
import Derived.Test.YtnecjofgjbfheaaGreatDoorPct0
namespace Go.Proofs.YtnecjofgjbfheaaGreatDoor
open Go.RowKit
set_option maxRecDepth 100000

def partsL (d : List UInt8) : List (List UInt8) := if 1 < (splitL d 46).length ∧ (splitL d 46).getLast? = some [] then (splitL d 46).dropLast else splitL d 46

def isD (b : Int) (c : UInt8) : Bool := decide (0 ≤ hexI c.toNat) && decide (hexI c.toNat < b)

def allD (b : Int) (l : List UInt8) : Bool := l.all (isD b)

def valD (b : Nat) (l : List UInt8) : Nat := l.foldl (fun n c => n * b + (hexI c.toNat).toNat) 0

/-- Does it begin with 0x or 0X? -/
def xpre (p : List UInt8) : Bool := decide (2 ≤ p.length) && (decide (((p.getD 0 0).toNat : Int) = 48) && (decide (((p.getD 1 0).toNat : Int) = 120) || decide (((p.getD 1 0).toNat : Int) = 88)))

def opre (p : List UInt8) : Bool := decide (2 ≤ p.length) && decide (((p.getD 0 0).toNat : Int) = 48)

def numP (p : List UInt8) : Option Nat :=
  if xpre p then (if allD 16 (p.drop 2) then some (valD 16 (p.drop 2)) else none)
  else if opre p then (if allD 8 p then some (valD 8 p) else none)
  else if p ≠ [] ∧ allD 10 p = true then some (valD 10 p) else none

def sumP : Nat → List (List UInt8) → Option Nat
  | _, [] => none
  | m, p :: r => match numP p with
    | none => none
    | some n => if r = [] then (if n < 256 ^ m then some n else none) else if n ≤ 255 then (sumP (m - 1) r).map (n * 256 ^ (m - 1) + ·) else none

def addrP (l : List (List UInt8)) : Option Nat := if l.length ≤ 4 then sumP 4 l else none

def numericP (p : List UInt8) : Bool := (decide (p ≠ []) && allD 10 p) || (xpre p && allD 16 (p.drop 2))

def forbL : List UInt8 := [35, 37, 47, 58, 60, 62, 63, 64, 91, 92, 93, 94, 124]

def forbB (c : UInt8) : Bool := decide ((c.toNat : Int) ≤ 32) || decide (127 ≤ (c.toNat : Int)) || hasB forbL c

def joinD : List (List UInt8) → List UInt8
  | [] => []
  | [p] => p
  | p :: q :: r => p ++ 46 :: joinD (q :: r)

def fourL (a : Nat) : List (List UInt8) := [Lib.itoa (a / 16777216 % 256 : Nat), Lib.itoa (a / 65536 % 256 : Nat), Lib.itoa (a / 256 % 256 : Nat), Lib.itoa (a % 256 : Nat)]

def textL (a : Nat) : List UInt8 := joinD (fourL a)

def hostD (d : List UInt8) : Option (List UInt8) :=
  if d = [] ∨ d.any forbB = true then none else if numericP ((partsL d).getLastD []) then (addrP (partsL d)).map textL else some d

def hostP (s : List UInt8) : Option (List UInt8) := hostD (lowL (decL s))

def numberP (s : List UInt8) : Option Nat := addrP (partsL s)

def addressP (h : List UInt8) : Option Nat := match numberP h with | none => none | some a => if textL a = h then some a else none

theorem valD_snoc (b : Nat) (l : List UInt8) (c : UInt8) : valD b (l ++ [c]) = valD b l * b + (hexI c.toNat).toNat := by
  unfold valD
  rw [List.foldl_append]
  rfl

theorem allD_snoc (b : Int) (l : List UInt8) (c : UInt8) : allD b (l ++ [c]) = (allD b l && isD b c) := by
  unfold allD
  rw [List.all_append]
  simp

theorem sumP_one (m : Nat) (p : List UInt8) : sumP m [p] = match numP p with | none => none | some n => if n < 256 ^ m then some n else none := by
  unfold sumP
  cases numP p <;> simp

theorem sumP_more (m : Nat) (p q : List UInt8) (r : List (List UInt8)) : sumP m (p :: q :: r) = match numP p with | none => none | some n => if n ≤ 255 then (sumP (m - 1) (q :: r)).map (n * 256 ^ (m - 1) + ·) else none := by
  rw [sumP]
  cases numP p <;> simp

theorem sumP_lt : ∀ (l : List (List UInt8)) (m n : Nat), l.length ≤ m → sumP m l = some n → n < 256 ^ m
  | [], m, n, _, h => by simp [sumP] at h
  | [p], m, n, _, h => by
    rw [sumP_one] at h
    cases hp : numP p with
    | none => rw [hp] at h; simp at h
    | some k =>
      rw [hp] at h
      simp only at h
      split at h
      · injection h with h; omega
      · exact absurd h (by simp)
  | p :: q :: r, m, n, hm, h => by
    rw [sumP_more] at h
    cases hp : numP p with
    | none => rw [hp] at h; simp at h
    | some k =>
      rw [hp] at h
      simp only at h
      split at h
      · rename_i hk
        obtain ⟨j, hj, rfl⟩ := Option.map_eq_some_iff.1 h
        simp only [List.length_cons] at hm
        have := sumP_lt (q :: r) (m - 1) j (by simp only [List.length_cons]; omega) hj
        have e : 256 ^ m = 256 * 256 ^ (m - 1) := by
          obtain ⟨k, rfl⟩ : ∃ k, m = k + 1 := ⟨m - 1, by omega⟩
          rw [Nat.pow_succ, Nat.mul_comm]
          rfl
        rw [e]
        have h2 : k * 256 ^ (m - 1) ≤ 255 * 256 ^ (m - 1) := Nat.mul_le_mul_right _ hk
        omega
      · exact absurd h (by simp)

theorem addrP_lt {l : List (List UInt8)} {n : Nat} (h : addrP l = some n) : n < 4294967296 := by
  unfold addrP at h
  split at h
  · rename_i hl
    exact sumP_lt l 4 n hl h
  · exact absurd h (by simp)

/-! splitting -/
theorem split_join : ∀ (ps : List (List UInt8)), ps ≠ [] → (∀ p ∈ ps, (46 : UInt8) ∉ p) → splitL (joinD ps) 46 = ps
  | [], h, _ => absurd rfl h
  | [p], _, h => by
    unfold splitL joinD
    rw [splitGo_none 46 p [] (h p (by simp))]
    simp
  | p :: q :: r, _, h => by
    have ih := split_join (q :: r) (by simp) (fun x hx => h x (List.mem_cons_of_mem _ hx))
    unfold splitL at ih ⊢
    rw [joinD, splitGo_pre 46 p [] _ (h p (by simp)), ih]
    simp

theorem splitGo_ne (sep : UInt8) : ∀ (l cur : List UInt8), splitGo sep cur l ≠ []
  | [], cur => by simp [splitGo]
  | c :: l, cur => by
    rw [splitGo]
    split
    · simp
    · exact splitGo_ne sep l _

theorem splitL_ne (l : List UInt8) (sep : UInt8) : splitL l sep ≠ [] := splitGo_ne sep l []

theorem split_len (l : List UInt8) (sep : UInt8) : 1 ≤ (splitL l sep).length := List.length_pos_iff.2 (splitL_ne l sep)

theorem parts_pos (d : List UInt8) : 1 ≤ (partsL d).length := by
  unfold partsL
  split
  · rw [List.length_dropLast]
    omega
  · exact split_len d 46

theorem parts_join (ps : List (List UInt8)) (h0 : ps ≠ []) (h : ∀ p ∈ ps, (46 : UInt8) ∉ p) (hl : ps.getLast? ≠ some []) : partsL (joinD ps) = ps := by
  unfold partsL
  rw [split_join ps h0 h, if_neg (fun hc => hl hc.2)]

/-! letters' case -/
theorem byte_all {p : UInt8 → Prop} (h : ∀ n : Fin 256, p (UInt8.ofNat n.val)) (c : UInt8) : p c := by
  have := h ⟨c.toNat, c.toNat_lt⟩
  simpa using this

theorem low_low (c : UInt8) : lowB (lowB c) = lowB c := byte_all (p := fun c => lowB (lowB c) = lowB c) (by decide +kernel) c

theorem low_hex (c : UInt8) : hexI (lowB c).toNat = hexI c.toNat := byte_all (p := fun c => hexI (lowB c).toNat = hexI c.toNat) (by decide +kernel) c

theorem low_dot (c : UInt8) : (lowB c = 46) = (c = 46) := by
  have := byte_all (p := fun c => decide (lowB c = 46) = decide (c = 46)) (by decide +kernel) c
  simpa using this

theorem low_zero (c : UInt8) : (((lowB c).toNat : Int) = 48) = ((c.toNat : Int) = 48) := by
  have := byte_all (p := fun c => decide (((lowB c).toNat : Int) = 48) = decide ((c.toNat : Int) = 48)) (by decide +kernel) c
  simpa using this

theorem low_x (c : UInt8) : (decide (((lowB c).toNat : Int) = 120) || decide (((lowB c).toNat : Int) = 88)) = (decide ((c.toNat : Int) = 120) || decide ((c.toNat : Int) = 88)) :=
  byte_all (p := fun c => (decide (((lowB c).toNat : Int) = 120) || decide (((lowB c).toNat : Int) = 88)) = (decide ((c.toNat : Int) = 120) || decide ((c.toNat : Int) = 88))) (by decide +kernel) c

theorem lowL_low (l : List UInt8) : lowL (lowL l) = lowL l := by
  unfold lowL
  rw [List.map_map]
  apply List.map_congr_left
  intro c _
  exact low_low c

theorem splitGo_low : ∀ (l cur : List UInt8), splitGo 46 (lowL cur) (lowL l) = (splitGo 46 cur l).map lowL
  | [], cur => by simp [lowL, splitGo]
  | c :: l, cur => by
    have e : lowL (c :: l) = lowB c :: lowL l := rfl
    rw [e, splitGo, splitGo]
    by_cases hc : c = 46
    · have h2 : lowB c = 46 := by rw [low_dot]; exact hc
      rw [if_pos h2, if_pos hc, List.map_cons, ← splitGo_low l []]
      rfl
    · have h2 : ¬ lowB c = 46 := by rw [low_dot]; exact hc
      rw [if_neg h2, if_neg hc, ← splitGo_low l (cur ++ [c])]
      congr 1
      unfold lowL
      rw [List.map_append]
      rfl

theorem split_low (l : List UInt8) : splitL (lowL l) 46 = (splitL l 46).map lowL := splitGo_low l []

theorem parts_low (l : List UInt8) : partsL (lowL l) = (partsL l).map lowL := by
  unfold partsL
  rw [split_low, List.length_map, List.getLast?_map]
  have e : ((splitL l 46).getLast?.map lowL = some []) = ((splitL l 46).getLast? = some []) := by
    cases h : (splitL l 46).getLast? with
    | none => simp
    | some p => simp [lowL]
  simp only [e]
  split
  · rw [List.map_dropLast]
  · rfl

theorem low_getD (p : List UInt8) (i : Nat) (h : i < p.length) : (lowL p).getD i 0 = lowB (p.getD i 0) := by
  unfold lowL
  rw [List.getD_eq_getElem?_getD, List.getD_eq_getElem?_getD, List.getElem?_map, List.getElem?_eq_getElem h]
  rfl

theorem low_length (p : List UInt8) : (lowL p).length = p.length := by unfold lowL; rw [List.length_map]

theorem xpre_low (p : List UInt8) : xpre (lowL p) = xpre p := by
  unfold xpre
  rw [low_length]
  by_cases h : 2 ≤ p.length
  · rw [low_getD p 0 (by omega), low_getD p 1 (by omega), low_x]
    simp only [low_zero]
  · simp [h]

theorem opre_low (p : List UInt8) : opre (lowL p) = opre p := by
  unfold opre
  rw [low_length]
  by_cases h : 2 ≤ p.length
  · rw [low_getD p 0 (by omega)]
    simp only [low_zero]
  · simp [h]

theorem allD_low (b : Int) (p : List UInt8) : allD b (lowL p) = allD b p := by
  unfold allD lowL
  rw [List.all_map]
  congr 1
  funext c
  show isD b (lowB c) = isD b c
  unfold isD
  rw [low_hex]

theorem valD_low (b : Nat) (p : List UInt8) : valD b (lowL p) = valD b p := by
  unfold valD lowL
  rw [List.foldl_map]
  congr 1
  funext n c
  rw [low_hex]

theorem low_drop (p : List UInt8) (n : Nat) : (lowL p).drop n = lowL (p.drop n) := by unfold lowL; rw [List.map_drop]

theorem numP_low (p : List UInt8) : numP (lowL p) = numP p := by
  unfold numP
  rw [xpre_low, opre_low, allD_low, valD_low, low_drop, allD_low, valD_low, allD_low, valD_low]
  have e : (lowL p ≠ []) = (p ≠ []) := by simp [lowL]
  simp only [e]

theorem sumP_low : ∀ (l : List (List UInt8)) (m : Nat), sumP m (l.map lowL) = sumP m l
  | [], m => rfl
  | p :: r, m => by
    rw [List.map_cons, sumP, sumP, numP_low, sumP_low r]
    have e : (r.map lowL = []) = (r = []) := by simp
    simp only [e]

theorem number_low (s : List UInt8) : numberP (lowL s) = numberP s := by
  unfold numberP addrP
  rw [parts_low, List.length_map, sumP_low]

/-! nothing of it is a percent: it is decoded to itself -/
theorem esc_no {l : List UInt8} (h : (37 : UInt8) ∉ l) : escB l = false := by
  rw [Bool.eq_false_iff]
  intro he
  obtain ⟨a, b, r, e, _⟩ := escB_first he
  rw [e] at h
  simp at h

theorem dec_no : ∀ (l : List UInt8), (37 : UInt8) ∉ l → decL l = l
  | [], _ => rfl
  | c :: l, h => by
    rw [decL_raw (by simp) (esc_no h)]
    simp only [List.getD_cons_zero, List.drop_succ_cons, List.drop_zero]
    rw [dec_no l (fun hc => h (by simp [hc]))]

theorem forb_37 : forbB 37 = true := by decide

theorem clean_no {d : List UInt8} (h : d.any forbB ≠ true) : (37 : UInt8) ∉ d := by
  intro hc
  apply h
  rw [List.any_eq_true]
  exact ⟨37, hc, forb_37⟩

/-! what an address is written as -/
theorem itoa_num : ∀ b : Fin 256, numP (Lib.itoa (b.val : Int)) = some b.val := by decide +kernel

theorem itoa_dig : ∀ b : Fin 256, (Lib.itoa (b.val : Int)).all (fun c => isD 10 c) = true := by decide +kernel

theorem itoa_ne : ∀ b : Fin 256, Lib.itoa (b.val : Int) ≠ [] := by decide +kernel

theorem itoa_len : ∀ b : Fin 256, (Lib.itoa (b.val : Int)).length ≤ 3 := by decide +kernel

theorem isD_plain {c : UInt8} (h : isD 10 c = true) : forbB c = false ∧ lowB c = c ∧ c ≠ 46 ∧ c ≠ 37 := by
  have := byte_all (p := fun c => isD 10 c = true → forbB c = false ∧ lowB c = c ∧ c ≠ 46 ∧ c ≠ 37) (by decide +kernel) c
  exact this h

theorem four_each {a : Nat} {p : List UInt8} (h : p ∈ fourL a) : ∃ b : Fin 256, p = Lib.itoa (b.val : Int) := by
  unfold fourL at h
  simp only [List.mem_cons, List.not_mem_nil, or_false] at h
  rcases h with h | h | h | h
  · exact ⟨⟨a / 16777216 % 256, by omega⟩, h⟩
  · exact ⟨⟨a / 65536 % 256, by omega⟩, h⟩
  · exact ⟨⟨a / 256 % 256, by omega⟩, h⟩
  · exact ⟨⟨a % 256, by omega⟩, h⟩

theorem four_digs {a : Nat} {p : List UInt8} (h : p ∈ fourL a) {c : UInt8} (hc : c ∈ p) : isD 10 c = true := by
  obtain ⟨b, rfl⟩ := four_each h
  exact List.all_eq_true.1 (itoa_dig b) c hc

theorem join_mem : ∀ (ps : List (List UInt8)) (c : UInt8), c ∈ joinD ps → c = 46 ∨ ∃ p ∈ ps, c ∈ p
  | [], c, h => by simp [joinD] at h
  | [p], c, h => by
    rw [joinD] at h
    exact .inr ⟨p, by simp, h⟩
  | p :: q :: r, c, h => by
    rw [joinD] at h
    rcases List.mem_append.1 h with h | h
    · exact .inr ⟨p, by simp, h⟩
    · rcases List.mem_cons.1 h with h | h
      · exact .inl h
      · rcases join_mem (q :: r) c h with h | ⟨x, hx, hc⟩
        · exact .inl h
        · exact .inr ⟨x, List.mem_cons_of_mem _ hx, hc⟩

theorem text_plain {a : Nat} {c : UInt8} (h : c ∈ textL a) : forbB c = false ∧ lowB c = c ∧ c ≠ 37 := by
  rcases join_mem _ _ h with rfl | ⟨p, hp, hc⟩
  · decide
  · obtain ⟨h1, h2, _, h4⟩ := isD_plain (four_digs hp hc)
    exact ⟨h1, h2, h4⟩

theorem text_parts (a : Nat) : partsL (textL a) = fourL a := by
  refine parts_join _ (by simp [fourL]) (fun p hp hc => ?_) ?_
  · exact (isD_plain (four_digs hp hc)).2.2.1 rfl
  · have := itoa_ne ⟨a % 256, by omega⟩
    unfold fourL
    simp only [List.getLast?_cons_cons, List.getLast?_singleton]
    intro hc
    injection hc with hc
    exact this hc

theorem four_num (x : Nat) (h : x < 256) : numP (Lib.itoa (x : Int)) = some x := itoa_num ⟨x, h⟩

theorem number_text (a : Nat) (h : a < 4294967296) : numberP (textL a) = some a := by
  unfold numberP addrP
  rw [text_parts]
  unfold fourL
  simp only [List.length_cons, List.length_nil, Nat.reduceAdd, Nat.le_refl, if_true]
  rw [sumP_more, four_num _ (by omega)]
  simp only
  rw [if_pos (by omega), sumP_more, four_num _ (by omega)]
  simp only
  rw [if_pos (by omega), sumP_more, four_num _ (by omega)]
  simp only
  rw [if_pos (by omega), sumP_one, four_num _ (by omega)]
  simp only
  rw [if_pos (by omega)]
  simp only [Option.map_some, Option.some.injEq]
  omega

theorem text_low (a : Nat) : lowL (textL a) = textL a := by
  unfold lowL
  conv => rhs; rw [← List.map_id (textL a)]
  exact List.map_congr_left (fun c hc => (text_plain hc).2.1)

theorem text_dec (a : Nat) : decL (textL a) = textL a := dec_no _ (fun h => (text_plain h).2.2 rfl)

theorem text_ne (a : Nat) : textL a ≠ [] := by
  intro h
  have := text_parts a
  rw [h] at this
  have h2 := congrArg List.length this
  simp [partsL, splitL, splitGo, fourL] at h2

theorem text_clean (a : Nat) : (textL a).any forbB ≠ true := by
  intro h
  obtain ⟨c, hc, h2⟩ := List.any_eq_true.1 h
  rw [(text_plain hc).1] at h2
  exact absurd h2 (by decide)

theorem text_numeric (a : Nat) : numericP ((partsL (textL a)).getLastD []) = true := by
  rw [text_parts]
  unfold fourL numericP
  have h1 := itoa_ne ⟨a % 256, by omega⟩
  have h2 := itoa_dig ⟨a % 256, by omega⟩
  simp only [List.getLastD_cons, List.getLastD_nil]
  simp only at h1 h2
  unfold allD
  rw [h2, decide_eq_true h1]
  rfl

theorem host_text (a : Nat) (h : a < 4294967296) : hostP (textL a) = some (textL a) := by
  unfold hostP hostD
  rw [text_dec, text_low, if_neg (by rintro (h | h); exact text_ne a h; exact text_clean a h), if_pos (text_numeric a)]
  have := number_text a h
  unfold numberP at this
  rw [this]
  rfl

/-- What was read is read as itself. -/
theorem host_low {s h : List UInt8} (he : hostP s = some h) : lowL h = h ∧ (37 : UInt8) ∉ h ∧ h ≠ [] ∧ h.any forbB ≠ true := by
  unfold hostP hostD at he
  split at he
  · exact absurd he (by simp)
  · rename_i hc
    split at he
    · obtain ⟨a, _, rfl⟩ := Option.map_eq_some_iff.1 he
      exact ⟨text_low a, fun h => (text_plain h).2.2 rfl, text_ne a, text_clean a⟩
    · injection he with he
      subst he
      exact ⟨lowL_low _, clean_no (fun h => hc (.inr h)), fun h => hc (.inl h), fun h => hc (.inr h)⟩

theorem host_host {s h : List UInt8} (he : hostP s = some h) : hostP h = some h := by
  obtain ⟨h1, h2, _, _⟩ := host_low he
  have h3 : hostP h = hostD h := by unfold hostP; rw [dec_no h h2, h1]
  unfold hostP hostD at he
  split at he
  · exact absurd he (by simp)
  · rename_i hc
    split at he
    · obtain ⟨a, ha, rfl⟩ := Option.map_eq_some_iff.1 he
      exact host_text a (addrP_lt ha)
    · rename_i hn
      injection he with he
      rw [h3, ← he]
      unfold hostD
      rw [if_neg hc, if_neg hn]

end Go.Proofs.YtnecjofgjbfheaaGreatDoor
