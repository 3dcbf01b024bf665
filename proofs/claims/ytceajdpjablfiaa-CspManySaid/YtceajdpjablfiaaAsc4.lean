/- Contracts: lists of texts. -/
import Derived.Lib.ItoaMem
import Derived.Lib.ItoaLen
import Derived.Test.YtceajdpjablfiaaProg
import Derived.Test.YtceajdpjablfiaaShelf
import Derived.Test.YtceajdpjablfiaaKit
import Derived.Test.YtceajdpjablfiaaInfo
import Derived.Test.YtceajdpjablfiaaPlain
import Derived.Test.YtceajdpjablfiaaAsc1
namespace Go.Proofs.Ytceajdpjablfiaa
open Go.RowKit Go.Proofs

/-- A text as a value, by the list of its bytes. -/
def strL (l : List UInt8) : Value := .string ⟨l.toArray⟩

def eqLL (a b : List (List UInt8)) : Bool := decide (a = b)

theorem eqLL_yes {a b : List (List UInt8)} (h : a = b) : eqLL a b = true := decide_eq_true h

theorem eqLL_no {a b : List (List UInt8)} (h : a ≠ b) : eqLL a b = false := decide_eq_false h

theorem texts_any (va vb : Value) (a b : List (List UInt8)) (w : World) (ha : SliceAt w va (a.map strL)) (hb : SliceAt w vb (b.map strL)) (hla : a.length ≤ 1073741824) (hlb : b.length ≤ 1073741824) :
    Calls Try.prog 21 #[va, vb] w fun e w' => e = .returned (.bool (eqLL a b)) ∧ ∃ m, w' = w.drewN m := by
  by_cases hl : a.length = b.length
  · by_cases hne : a = []
    · have hbe : b = [] := List.eq_nil_of_length_eq_zero (by rw [← hl, hne]; rfl)
      subst hne hbe
      obtain ⟨aa, ca, rfl⟩ := ha.empty
      obtain ⟨ab, cb, rfl⟩ := hb.empty
      go_enter Try.func21, Try.ntmps21
      go_wp2
      refine wp_loop_rounds 1 ?_
      rw [rounds_succ]
      go_wp2
      go_ret
      exact ⟨rfl, 0, rfl⟩
    · have hbne : b ≠ [] := fun e => hne (List.eq_nil_of_length_eq_zero (by rw [hl, e]; rfl))
      obtain ⟨ba, oa, ca, rfl, hca⟩ := ha.at (by simpa using hne)
      obtain ⟨bb, ob, cb, rfl, hcb⟩ := hb.at (by simpa using hbne)
      rw [List.length_map, List.length_map]
      have hl0 : ((a.length : Int) != (b.length : Int)) = false := by rw [bne_eq_false_iff_eq]; omega
      have HA := Lib.hid hca
      have HB := Lib.hid hcb
      have HL := Lib.hid hl
      clear hca hcb ha hb hl hne hbne
      go_enter Try.func21, Try.ntmps21
      go_wp2
      go_loopw [5] (fun i wr => ∃ k : Nat, k ≤ a.length ∧ i = .int .i64 k ∧ a.take k = b.take k ∧ ∃ m, wr = w.drewN m) (fun i _ => a.length - (intOf i).toNat)
      case atStart => exact ⟨0, Nat.zero_le _, rfl, rfl, 0, rfl⟩
      case round =>
        clear hl0
        obtain ⟨k, hk, rfl, he, hm⟩ := hrel
        have hcell : ∀ p, wr.cell? p = w.cell? p := by obtain ⟨m, rfl⟩ := hm; intro p; rfl
        have HCELL := Lib.hid hcell
        have HM := Lib.hid hm
        have HE := Lib.hid he
        clear hcell hm he
        by_cases hlt : k < a.length
        · have hltb : k < b.length := by have := HL.out; omega
          obtain ⟨x, hx⟩ : ∃ x, a[k]? = some x := ⟨_, List.getElem?_eq_getElem hlt⟩
          obtain ⟨y, hy⟩ : ∃ y, b[k]? = some y := ⟨_, List.getElem?_eq_getElem hltb⟩
          have hcx : wr.cell? ⟨ba, oa + k, none⟩ = some (.string ⟨x.toArray⟩) := (HCELL.out _).trans (HA.out k (strL x) (by rw [List.getElem?_map, hx]; rfl))
          have hcy : wr.cell? ⟨bb, ob + k, none⟩ = some (.string ⟨y.toArray⟩) := (HCELL.out _).trans (HB.out k (strL y) (by rw [List.getElem?_map, hy]; rfl))
          have hx1 : (k : Int) < (a.length : Int) := by omega
          have hx2 : (k : Int) < (b.length : Int) := by omega
          by_cases hq : x = y
          · have hq0 : (x == y) = true := by simp [hq]
            have HN : Hid (a.take (k + 1) = b.take (k + 1)) := Lib.hid (by rw [take_succ_of hx, take_succ_of hy, HE.out, hq])
            clear hq hx hy
            go_wp2_with fail
            go_quiet (fail)
            go_wp2
            go_roundw
            case rel => exact ⟨k + 1, by omega, by go_num, HN.out, drewN_more HM.out _⟩
            case measure => simp [intOf]; omega
          · have hq0 : (x == y) = false := by simp [hq]
            have HF : Hid (eqLL a b = false) := Lib.hid (eqLL_no fun e => hq (by rw [e, hy] at hx; exact (Option.some.inj hx).symm))
            clear hq hx hy
            go_wp2_with fail
            go_quiet (fail)
            go_wp2
            go_ret
            exact ⟨ret_bool HF.out.symm, drewN_more HM.out _⟩
        · have HF : Hid (eqLL a b = true) := Lib.hid (eqLL_yes (by
            have h1 := HE.out
            have := HL.out
            rw [List.take_of_length_le (by omega), List.take_of_length_le (by omega)] at h1
            exact h1))
          go_wp2
          go_ret
          exact ⟨ret_bool HF.out.symm, HM.out⟩
  · obtain ⟨aa, ca, rfl⟩ := ha.len
    obtain ⟨ab, cb, rfl⟩ := hb.len
    have hl0 : ((a.length : Int) != (b.length : Int)) = true := by rw [bne_iff_ne]; omega
    have HF : Hid (eqLL a b = false) := Lib.hid (eqLL_no fun e => hl (by rw [e]))
    rw [List.length_map, List.length_map]
    clear hl
    go_enter Try.func21, Try.ntmps21
    go_wp2
    go_ret
    exact ⟨ret_bool HF.out.symm, 0, rfl⟩

def splitGo (sep : UInt8) (cur : List UInt8) : List UInt8 → List (List UInt8)
  | [] => [cur]
  | c :: r => if c = sep then cur :: splitGo sep [] r else splitGo sep (cur ++ [c]) r

def splitL (l : List UInt8) (sep : UInt8) : List (List UInt8) := splitGo sep [] l

theorem splitGo_pre (sep : UInt8) : ∀ (p cur r : List UInt8), sep ∉ p → splitGo sep cur (p ++ sep :: r) = (cur ++ p) :: splitGo sep [] r
  | [], cur, r, _ => by simp [splitGo]
  | c :: p, cur, r, h => by
    have h1 : c ≠ sep := fun e => h (by simp [e])
    have h2 : sep ∉ p := fun e => h (by simp [e])
    rw [List.cons_append, splitGo, if_neg h1, splitGo_pre sep p _ r h2]
    simp

theorem splitGo_none (sep : UInt8) : ∀ (p cur : List UInt8), sep ∉ p → splitGo sep cur p = [cur ++ p]
  | [], cur, _ => by simp [splitGo]
  | c :: p, cur, h => by
    have h1 : c ≠ sep := fun e => h (by simp [e])
    have h2 : sep ∉ p := fun e => h (by simp [e])
    rw [splitGo, if_neg h1, splitGo_none sep p _ h2]
    simp

theorem indexByte_cases (l : List UInt8) (c : UInt8) : (Lib.indexByte l c = -1 ∧ c ∉ l) ∨ ∃ i : Nat, Lib.indexByte l c = i ∧ i < l.length ∧ c ∉ l.take i ∧ l = l.take i ++ c :: l.drop (i + 1) := by
  induction l with
  | nil => left; simp [Lib.indexByte]
  | cons b l ih =>
    simp only [Lib.indexByte]
    by_cases h1 : b == c
    · right
      rw [if_pos h1]
      have : b = c := by simpa using h1
      exact ⟨0, rfl, by simp, by simp, by simp [this]⟩
    · rw [if_neg h1]
      have h1' : b ≠ c := by simpa using h1
      rcases ih with ⟨h2, h3⟩ | ⟨i, h2, h3, h4, h5⟩
      · left
        rw [h2]
        simp [h3, Ne.symm h1']
      · right
        rw [h2]
        have h6 : ((i : Int) == -1) = false := beq_eq_false_iff_ne.2 (by omega)
        rw [h6]
        refine ⟨i + 1, by simp, by simp; omega, ?_, ?_⟩
        · rw [List.take_succ_cons]
          simp [h4, Ne.symm h1']
        · rw [List.take_succ_cons, List.drop_succ_cons, List.cons_append, ← h5]

theorem strL_data (t : ByteArray) : strL t.data.toList = .string t := by cases t; rfl

theorem strL_of {t : ByteArray} {l : List UInt8} (h : t.data.toList = l) : strL l = .string t := by subst h; exact strL_data t

theorem strL_take (t : ByteArray) (i : Nat) : strL (t.data.toList.take i) = .string (t.extract 0 i) := strL_of (by rw [extract_list, List.drop_zero])

theorem split_any (s : ByteArray) (sep : UInt8) (hs : s.size ≤ 1073741824) (w : World) :
    Calls Try.prog 22 #[.string s, .int .u8 sep.toNat] w fun e w' => (∃ v, e = .returned v ∧ w'.ownsRow w.heap.size 9 1 v (splitL s.data.toList sep).length ((splitL s.data.toList sep).map strL)) ∧ Below w.heap.size w w' := by
  obtain ⟨i0, hi, hz0, hz1, hz2⟩ := info_parts Try.infoStr
  go_enter Try.func22, Try.ntmps22
  go_wp2
  go_loopw [0, 4] (fun r v wr => ∃ (t : ByteArray) (ps : List (List UInt8)), r = .string t ∧ ps.length + t.size ≤ s.size ∧ ps ++ splitL t.data.toList sep = splitL s.data.toList sep ∧ wr.ownsRow w.heap.size 9 1 v ps.length (ps.map strL) ∧ Below w.heap.size w wr) (fun r _ _ => strSize r)
  case atStart => exact ⟨s, [], rfl, by simp, rfl, World.ownsRow_nil _ _ _ _, Below.refl _ _⟩
  case round =>
    obtain ⟨t, ps, rfl, hle, hps, hown, hb⟩ := hrel
    have HP := Lib.hid hps
    clear hps
    obtain ⟨wo, hwo⟩ : ∃ wo : World, wo = wr := ⟨_, rfl⟩
    subst hwo
    have hsz := hb.size
    have hbyte : sep.toNat.toUInt8 = sep := by simp
    have HBY := Lib.hid hbyte
    clear hbyte
    rcases indexByte_cases t.data.toList sep with ⟨hx, hno⟩ | ⟨i, hx, hil, hno, hcut⟩
    · have HX := Lib.hid hx
      have HN := Lib.hid (splitGo_none sep t.data.toList [] hno)
      clear hx hno
      go_wp2_with fail
      refine (Try.strings_IndexByte t sep.toNat _).mono ?_
      rw [show ((sep.toNat : Int).toNat).toUInt8 = sep from HBY.out, HX.out]
      rintro e w' ⟨rfl, rfl⟩
      go_wp2_with (at_builtin; refine wpList_append1 rfl _ _ 27 rfl w.heap.size 9 rfl i0 (.string ByteArray.empty) 16 Try.underlying27 hi hz0 hz1 hz2 rfl _ ps.length _ rfl hown rfl rfl (by omega) (by omega) hsz ?_; intro v' w' hown' hb')
      go_ret
      have e : splitL s.data.toList sep = ps ++ [t.data.toList] := by
        rw [← HP.out]
        unfold splitL
        rw [HN.out]
        rfl
      refine ⟨⟨_, rfl, ?_⟩, hb.trans hb'⟩
      rw [e, List.length_append, List.map_append]
      show w'.ownsRow _ _ _ _ _ (_ ++ [strL t.data.toList])
      rw [strL_data]
      exact hown'
    · have HX := Lib.hid hx
      have HN := Lib.hid hno
      have HC := Lib.hid hcut
      rw [size_data] at hil
      clear hx hno hcut
      go_wp2_with fail
      refine (Try.strings_IndexByte t sep.toNat _).mono ?_
      rw [show ((sep.toNat : Int).toNat).toUInt8 = sep from HBY.out, HX.out]
      rintro e w' ⟨rfl, rfl⟩
      go_wp2_with (at_builtin; refine wpList_append1 rfl _ _ 27 rfl w.heap.size 9 rfl i0 (.string ByteArray.empty) 16 Try.underlying27 hi hz0 hz1 hz2 rfl _ ps.length _ rfl hown rfl rfl (by omega) (by omega) hsz ?_; intro v' w' hown' hb')
      go_roundw
      case rel =>
        refine ⟨_, ps ++ [t.data.toList.take i], rfl, ?_, ?_, ?_, hb.trans hb'⟩
        · rw [List.length_append, ByteArray.size_extract]
          simp
          omega
        · rw [← HP.out, extract_tail, List.append_assoc]
          congr 1
          conv => rhs; rw [HC.out]
          unfold splitL
          rw [splitGo_pre sep _ [] _ HN.out]
          rfl
        · rw [List.length_append, List.map_append]
          show w'.ownsRow _ _ _ _ _ (_ ++ [strL (t.data.toList.take i)])
          rw [show strL (t.data.toList.take i) = .string (t.extract 0 i) from strL_take t i]
          exact hown'
      case measure => simp [strSize]; omega

/-- The bytes from st on, ahead of k. -/
def cutW (s : ByteArray) (st k : Nat) : List UInt8 := (s.data.toList.take k).drop st

theorem cutW_self (s : ByteArray) (k : Nat) : cutW s k k = [] := by
  unfold cutW
  exact List.drop_eq_nil_of_le (by simp; omega)

theorem cutW_snoc (s : ByteArray) (st k : Nat) (h : k < s.size) (hst : st ≤ k) : cutW s st (k + 1) = cutW s st k ++ [s[k]] := by
  unfold cutW
  rw [take_snoc s k h, List.drop_append_of_le_length (by simp; omega)]

theorem cutW_ne (s : ByteArray) (st k : Nat) (h : k ≤ s.size) (hst : st < k) : cutW s st k ≠ [] := by
  unfold cutW
  intro e
  have := congrArg List.length e
  simp at this
  omega

theorem cutW_str (s : ByteArray) (st k : Nat) : strL (cutW s st k) = .string (s.extract st k) := strL_of (extract_list s st k)

theorem drop_at (s : ByteArray) (k : Nat) (h : k < s.size) : s.data.toList.drop k = s[k] :: s.data.toList.drop (k + 1) :=
  List.drop_eq_getElem_cons (by rw [size_data]; exact h)

theorem ref_split_any (s : ByteArray) (sep : UInt8) (hs : s.size ≤ 1073741824) (w : World) :
    Calls Try.prog 24 #[.string s, .int .u8 sep.toNat] w fun e w' => (∃ v, e = .returned v ∧ w'.ownsRow w.heap.size 9 1 v (splitL s.data.toList sep).length ((splitL s.data.toList sep).map strL)) ∧ Below w.heap.size w w' := by
  obtain ⟨i0, hi, hz0, hz1, hz2⟩ := info_parts Try.infoStr
  go_enter Try.func24, Try.ntmps24
  go_wp2
  go_loopw [5, 6, 7] (fun v f i wr => ∃ (k st : Nat) (ps : List (List UInt8)), k ≤ s.size ∧ i = .int .i64 k ∧ st ≤ k ∧ f = .int .i64 st ∧ ps.length ≤ k ∧ ps ++ splitGo sep (cutW s st k) (s.data.toList.drop k) = splitL s.data.toList sep ∧ wr.ownsRow w.heap.size 9 1 v ps.length (ps.map strL) ∧ Below w.heap.size w wr) (fun _ _ i _ => s.size - (intOf i).toNat)
  case atStart => exact ⟨0, 0, [], Nat.zero_le _, rfl, Nat.le_refl _, rfl, by simp, by rw [cutW_self]; rfl, World.ownsRow_nil _ _ _ _, Below.refl _ _⟩
  case round =>
    obtain ⟨k, st, ps, hk, rfl, hst, rfl, hle, hps, hown, hb⟩ := hrel
    have HP := Lib.hid hps
    clear hps
    have hsz := hb.size
    by_cases hlt : k < s.size
    · have HD := Lib.hid (drop_at s k hlt)
      have HC := Lib.hid (cutW_snoc s st k hlt hst)
      by_cases hq : s[k] = sep
      · have hq0 : ((s[k].toNat : Int) == (sep.toNat : Int)) = true := by rw [hq]; exact beq_iff_eq.2 rfl
        have HQ := Lib.hid hq
        clear hq
        go_wp2_with (at_builtin; refine wpList_append1 rfl _ _ 27 rfl w.heap.size 9 rfl i0 (.string ByteArray.empty) 16 Try.underlying27 hi hz0 hz1 hz2 rfl _ ps.length _ rfl hown rfl rfl (by omega) (by omega) hsz ?_; intro v' w' hown' hb')
        go_roundw
        case rel =>
          refine ⟨k + 1, k + 1, ps ++ [cutW s st k], by omega, by go_num, Nat.le_refl _, by go_num, by simp; omega, ?_, ?_, hb.trans hb'⟩
          · rw [← HP.out, HD.out, cutW_self, List.append_assoc]
            congr 1
            rw [splitGo, if_pos HQ.out]
            rfl
          · rw [List.length_append, List.map_append]
            show w'.ownsRow _ _ _ _ _ (_ ++ [strL (cutW s st k)])
            rw [cutW_str]
            exact hown'
        case measure => simp [intOf]; omega
      · have hq0 : ((s[k].toNat : Int) == (sep.toNat : Int)) = false := beq_eq_false_iff_ne.2 fun e => hq (UInt8.toNat_inj.1 (by omega))
        have HQ := Lib.hid hq
        clear hq
        go_wp2
        go_roundw
        case rel =>
          refine ⟨k + 1, st, ps, by omega, by go_num, by omega, rfl, by omega, ?_, hown, hb⟩
          rw [← HP.out, HD.out, HC.out]
          congr 1
          conv => rhs; rw [splitGo, if_neg HQ.out]
        case measure => simp [intOf]; omega
    · go_wp2_with (at_builtin; refine wpList_append1 rfl _ _ 27 rfl w.heap.size 9 rfl i0 (.string ByteArray.empty) 16 Try.underlying27 hi hz0 hz1 hz2 rfl _ ps.length _ rfl hown rfl rfl (by omega) (by omega) hsz ?_; intro v' w' hown' hb')
      go_ret
      have e : splitL s.data.toList sep = ps ++ [s.data.toList.drop st] := by
        rw [← HP.out, List.drop_eq_nil_of_le (by rw [size_data]; omega)]
        unfold cutW
        rw [List.take_of_length_le (by rw [size_data]; omega)]
        rfl
      refine ⟨⟨_, rfl, ?_⟩, hb.trans hb'⟩
      rw [e, List.length_append, List.map_append]
      show w'.ownsRow _ _ _ _ _ (_ ++ [strL (s.data.toList.drop st)])
      rw [show strL (s.data.toList.drop st) = .string (s.extract st s.size) from strL_of (extract_tail s st)]
      exact hown'

/-! Blanks -/
def isBl (c : UInt8) : Bool := hasB [9, 10, 12, 13, 32] c

def wordsGo (cur : List UInt8) : List UInt8 → List (List UInt8)
  | [] => if cur = [] then [] else [cur]
  | c :: r => if isBl c then (if cur = [] then wordsGo [] r else cur :: wordsGo [] r) else wordsGo (cur ++ [c]) r

def wordsL (l : List UInt8) : List (List UInt8) := wordsGo [] l

theorem wordsGo_end {cur : List UInt8} (h : cur ≠ []) : wordsGo cur [] = [cur] := by rw [wordsGo, if_neg h]

theorem wordsGo_cut {cur r : List UInt8} {c : UInt8} (hc : isBl c = true) (h : cur ≠ []) : wordsGo cur (c :: r) = cur :: wordsGo [] r := by rw [wordsGo, if_pos hc, if_neg h]

theorem wordsGo_pass {r : List UInt8} {c : UInt8} (hc : isBl c = true) : wordsGo [] (c :: r) = wordsGo [] r := by rw [wordsGo, if_pos hc, if_pos rfl]

theorem wordsGo_on {cur r : List UInt8} {c : UInt8} (hc : isBl c = false) : wordsGo cur (c :: r) = wordsGo (cur ++ [c]) r := by rw [wordsGo, if_neg (by simp [hc])]

theorem blanks_any (s : ByteArray) (hs : s.size ≤ 1073741824) (w : World) :
    Calls Try.prog 30 #[.string s] w fun e w' => (∃ v, e = .returned v ∧ w'.ownsRow w.heap.size 9 1 v (wordsL s.data.toList).length ((wordsL s.data.toList).map strL)) ∧ Below w.heap.size w w' := by
  obtain ⟨i0, hi, hz0, hz1, hz2⟩ := info_parts Try.infoStr
  go_enter Try.func30, Try.ntmps30
  go_wp2
  go_loopw [2, 3, 7] (fun v f i wr => ∃ (k st : Nat) (ps : List (List UInt8)), k ≤ s.size ∧ i = .int .i64 k ∧ st ≤ k ∧ f = .int .i64 st ∧ ps.length ≤ k ∧ ps ++ wordsGo (cutW s st k) (s.data.toList.drop k) = wordsL s.data.toList ∧ wr.ownsRow w.heap.size 9 1 v ps.length (ps.map strL) ∧ Below w.heap.size w wr) (fun _ _ i _ => s.size - (intOf i).toNat)
  case atStart => exact ⟨0, 0, [], Nat.zero_le _, rfl, Nat.le_refl _, rfl, by simp, by rw [cutW_self]; rfl, World.ownsRow_nil _ _ _ _, Below.refl _ _⟩
  case round =>
    obtain ⟨k, st, ps, hk, rfl, hst, rfl, hle, hps, hown, hb⟩ := hrel
    have HP := Lib.hid hps
    clear hps
    have hsz := hb.size
    obtain ⟨wo, hwo⟩ : ∃ wo : World, wo = wr := ⟨_, rfl⟩
    subst hwo
    by_cases hlt : k < s.size
    · have HD := Lib.hid (drop_at s k hlt)
      have HC := Lib.hid (cutW_snoc s st k hlt hst)
      have hown1 := hown.alloc (.cells #[.int .u8 9, .int .u8 10, .int .u8 12, .int .u8 13, .int .u8 32] 5)
      have hb1 : Below w.heap.size w (wo.alloc (.cells #[.int .u8 9, .int .u8 10, .int .u8 12, .int .u8 13, .int .u8 32] 5)) := hb.alloc hsz _
      cases hq : isBl s[k]
      · have HQ := Lib.hid hq
        clear hq
        go_wp2_with (go_at_call 37; refine (oneOf_byte_any s[k] [9, 10, 12, 13, 32] _ _ (by decide) (SliceAt.bytes _ _ _ _ _ _ rfl rfl)).mono ?_; rw [show hasB [9, 10, 12, 13, 32] s[k] = false from HQ.out]; rintro e w' ⟨rfl, rfl⟩)
        go_roundw
        case rel =>
          refine ⟨k + 1, st, ps, by omega, by go_num, by omega, rfl, by omega, ?_, hown1, hb1⟩
          rw [← HP.out, HD.out, HC.out]
          congr 1
          exact (wordsGo_on HQ.out).symm
        case measure => simp [intOf]; omega
      · have HQ := Lib.hid hq
        clear hq
        by_cases hst2 : st < k
        · go_wp2_with (first | (go_at_call 37; refine (oneOf_byte_any s[k] [9, 10, 12, 13, 32] _ _ (by decide) (SliceAt.bytes _ _ _ _ _ _ rfl rfl)).mono ?_; rw [show hasB [9, 10, 12, 13, 32] s[k] = true from HQ.out]; rintro e w' ⟨rfl, rfl⟩) | (at_builtin; refine wpList_append1g rfl _ _ 27 rfl w.heap.size 9 rfl i0 (.string ByteArray.empty) 16 Try.underlying27 hi hz0 hz1 hz2 rfl _ ps.length _ rfl (hown.alloc _) _ rfl (by simp) rfl (by omega) (by omega) (hb.alloc hsz _).size ?_; intro v' w' hown' hb'))
          go_roundw
          case rel =>
            refine ⟨k + 1, k + 1, ps ++ [cutW s st k], by omega, by go_num, Nat.le_refl _, by go_num, by simp; omega, ?_, ?_, hb1.trans hb'⟩
            · rw [← HP.out, HD.out, cutW_self, List.append_assoc]
              congr 1
              exact (wordsGo_cut HQ.out (cutW_ne s st k hk hst2)).symm
            · rw [List.length_append, List.map_append]
              show w'.ownsRow _ _ _ _ _ (_ ++ [strL (cutW s st k)])
              rw [cutW_str]
              exact hown'
          case measure => simp [intOf]; omega
        · go_wp2_with (go_at_call 37; refine (oneOf_byte_any s[k] [9, 10, 12, 13, 32] _ _ (by decide) (SliceAt.bytes _ _ _ _ _ _ rfl rfl)).mono ?_; rw [show hasB [9, 10, 12, 13, 32] s[k] = true from HQ.out]; rintro e w' ⟨rfl, rfl⟩)
          go_roundw
          case rel =>
            refine ⟨k + 1, k + 1, ps, by omega, by go_num, Nat.le_refl _, by go_num, by omega, ?_, hown1, hb1⟩
            rw [← HP.out, HD.out, cutW_self, show st = k from by omega, cutW_self]
            congr 1
            exact (wordsGo_pass HQ.out).symm
          case measure => simp [intOf]; omega
    · have HE : Hid (s.data.toList.drop k = []) := Lib.hid (List.drop_eq_nil_of_le (by rw [size_data]; omega))
      by_cases hst2 : st < s.size
      · go_wp2_with (at_builtin; refine wpList_append1 rfl _ _ 27 rfl w.heap.size 9 rfl i0 (.string ByteArray.empty) 16 Try.underlying27 hi hz0 hz1 hz2 rfl _ ps.length _ rfl hown rfl rfl (by omega) (by omega) hsz ?_; intro v' w' hown' hb')
        go_ret
        have e : wordsL s.data.toList = ps ++ [s.data.toList.drop st] := by
          rw [← HP.out, HE.out, wordsGo_end (cutW_ne s st k hk (by omega))]
          unfold cutW
          rw [List.take_of_length_le (by rw [size_data]; omega)]
        refine ⟨⟨_, rfl, ?_⟩, hb.trans hb'⟩
        rw [e, List.length_append, List.map_append]
        show w'.ownsRow _ _ _ _ _ (_ ++ [strL (s.data.toList.drop st)])
        rw [show strL (s.data.toList.drop st) = .string (s.extract st s.size) from strL_of (extract_tail s st)]
        exact hown'
      · go_wp2
        go_ret
        have e : wordsL s.data.toList = ps := by
          rw [← HP.out, HE.out, show st = k from by omega, cutW_self]
          simp [wordsGo]
        exact ⟨⟨_, rfl, by rw [e]; exact hown⟩, hb⟩

theorem isBl_iff (c : UInt8) : isBl c = true ↔ ((c.toNat : Int) = 9 ∨ (c.toNat : Int) = 10 ∨ (c.toNat : Int) = 12 ∨ (c.toNat : Int) = 13 ∨ (c.toNat : Int) = 32) := by
  unfold isBl hasB
  have h1 : c = 9 ↔ (c.toNat : Int) = 9 := by rw [← UInt8.toNat_inj]; show c.toNat = 9 ↔ _; omega
  have h2 : c = 10 ↔ (c.toNat : Int) = 10 := by rw [← UInt8.toNat_inj]; show c.toNat = 10 ↔ _; omega
  have h3 : c = 12 ↔ (c.toNat : Int) = 12 := by rw [← UInt8.toNat_inj]; show c.toNat = 12 ↔ _; omega
  have h4 : c = 13 ↔ (c.toNat : Int) = 13 := by rw [← UInt8.toNat_inj]; show c.toNat = 13 ↔ _; omega
  have h5 : c = 32 ↔ (c.toNat : Int) = 32 := by rw [← UInt8.toNat_inj]; show c.toNat = 32 ↔ _; omega
  simp only [List.contains_cons, List.contains_nil, Bool.or_false, Bool.or_eq_true, beq_iff_eq, h1, h2, h3, h4, h5]

/-- Where the reference's loop stands: f is the start of a word that goes on, or -1. -/
def InvB (s : ByteArray) (ps : List (List UInt8)) (f : Int) (k : Nat) : Prop :=
  (k ≤ s.size ∧ ((f = -1 ∧ ps ++ wordsGo [] (s.data.toList.drop k) = wordsL s.data.toList) ∨ (∃ st : Nat, f = st ∧ st < k ∧ ps ++ wordsGo (cutW s st k) (s.data.toList.drop k) = wordsL s.data.toList))) ∨ (k = s.size + 1 ∧ ps = wordsL s.data.toList)

theorem ref_blanks_any (s : ByteArray) (hs : s.size ≤ 1073741824) (w : World) :
    Calls Try.prog 25 #[.string s] w fun e w' => (∃ v, e = .returned v ∧ w'.ownsRow w.heap.size 9 1 v (wordsL s.data.toList).length ((wordsL s.data.toList).map strL)) ∧ Below w.heap.size w w' := by
  obtain ⟨i0, hi, hz0, hz1, hz2⟩ := info_parts Try.infoStr
  go_enter Try.func25, Try.ntmps25
  go_wp2
  go_loopw [3, 4, 5] (fun v f i wr => ∃ (k : Nat) (fi : Int) (ps : List (List UInt8)), k ≤ s.size + 1 ∧ i = .int .i64 k ∧ f = .int .i64 fi ∧ ps.length ≤ k ∧ InvB s ps fi k ∧ wr.ownsRow w.heap.size 9 1 v ps.length (ps.map strL) ∧ Below w.heap.size w wr) (fun _ _ i _ => s.size + 1 - (intOf i).toNat)
  case atStart => exact ⟨0, -1, [], Nat.zero_le _, rfl, rfl, by simp, .inl ⟨Nat.zero_le _, .inl ⟨rfl, rfl⟩⟩, World.ownsRow_nil _ _ _ _, Below.refl _ _⟩
  case round =>
    obtain ⟨k, fi, ps, hk, rfl, rfl, hle, hinv, hown, hb⟩ := hrel
    have hsz := hb.size
    rcases hinv with ⟨hks, hinv⟩ | ⟨rfl, rfl⟩
    · by_cases hlt : k < s.size
      · have HD := Lib.hid (drop_at s k hlt)
        have hl0 : ((k : Int) == (s.size : Int)) = false := beq_eq_false_iff_ne.2 (by omega)
        cases hq : isBl s[k]
        · have hno := mt (isBl_iff s[k]).2 (by simp [hq])
          have h9 : ((s[k].toNat : Int) == 9) = false := beq_eq_false_iff_ne.2 (by omega)
          have h10 : ((s[k].toNat : Int) == 10) = false := beq_eq_false_iff_ne.2 (by omega)
          have h12 : ((s[k].toNat : Int) == 12) = false := beq_eq_false_iff_ne.2 (by omega)
          have h13 : ((s[k].toNat : Int) == 13) = false := beq_eq_false_iff_ne.2 (by omega)
          have h32 : ((s[k].toNat : Int) == 32) = false := beq_eq_false_iff_ne.2 (by omega)
          have HQ := Lib.hid hq
          clear hq hno
          rcases hinv with ⟨rfl, hp⟩ | ⟨st, rfl, hst, hp⟩
          · have HP := Lib.hid hp
            clear hp
            go_wp2
            go_roundw
            case rel =>
              refine ⟨k + 1, k, ps, by omega, by go_num, rfl, by omega, .inl ⟨by omega, .inr ⟨k, rfl, by omega, ?_⟩⟩, hown, hb⟩
              rw [← HP.out, HD.out, cutW_snoc s k k hlt (Nat.le_refl _), cutW_self]
              congr 1
              exact (wordsGo_on HQ.out).symm
            case measure => simp [intOf]; omega
          · have HP := Lib.hid hp
            clear hp
            go_wp2
            go_roundw
            case rel =>
              refine ⟨k + 1, st, ps, by omega, by go_num, rfl, by omega, .inl ⟨by omega, .inr ⟨st, rfl, by omega, ?_⟩⟩, hown, hb⟩
              rw [← HP.out, HD.out, cutW_snoc s st k hlt (by omega)]
              congr 1
              exact (wordsGo_on HQ.out).symm
            case measure => simp [intOf]; omega
        · have hyes := (isBl_iff s[k]).1 hq
          have HQ := Lib.hid hq
          clear hq
          have hcases : ((s[k].toNat : Int) == 9) = true ∨ (((s[k].toNat : Int) == 9) = false ∧ ((s[k].toNat : Int) == 10) = true) ∨ (((s[k].toNat : Int) == 9) = false ∧ ((s[k].toNat : Int) == 10) = false ∧ ((s[k].toNat : Int) == 12) = true) ∨ (((s[k].toNat : Int) == 9) = false ∧ ((s[k].toNat : Int) == 10) = false ∧ ((s[k].toNat : Int) == 12) = false ∧ ((s[k].toNat : Int) == 13) = true) ∨ (((s[k].toNat : Int) == 9) = false ∧ ((s[k].toNat : Int) == 10) = false ∧ ((s[k].toNat : Int) == 12) = false ∧ ((s[k].toNat : Int) == 13) = false ∧ ((s[k].toNat : Int) == 32) = true) := by
            simp only [beq_iff_eq, beq_eq_false_iff_ne]
            omega
          clear hyes
          rcases hinv with ⟨rfl, hp⟩ | ⟨st, rfl, hst, hp⟩
          · have HP := Lib.hid hp
            clear hp
            rcases hcases with h9 | ⟨h9, h10⟩ | ⟨h9, h10, h12⟩ | ⟨h9, h10, h12, h13⟩ | ⟨h9, h10, h12, h13, h32⟩
            all_goals
              go_wp2
              go_roundw
              case rel =>
                refine ⟨k + 1, -1, ps, by omega, by go_num, rfl, by omega, .inl ⟨by omega, .inl ⟨rfl, ?_⟩⟩, hown, hb⟩
                rw [← HP.out, HD.out]
                congr 1
                exact (wordsGo_pass HQ.out).symm
              case measure => simp [intOf]; omega
          · have HP := Lib.hid hp
            clear hp
            rcases hcases with h9 | ⟨h9, h10⟩ | ⟨h9, h10, h12⟩ | ⟨h9, h10, h12, h13⟩ | ⟨h9, h10, h12, h13, h32⟩
            all_goals
              go_wp2_with (at_builtin; refine wpList_append1 rfl _ _ 27 rfl w.heap.size 9 rfl i0 (.string ByteArray.empty) 16 Try.underlying27 hi hz0 hz1 hz2 rfl _ ps.length _ rfl hown rfl rfl (by omega) (by omega) hsz ?_; intro v' w' hown' hb')
              go_roundw
              case rel =>
                refine ⟨k + 1, -1, ps ++ [cutW s st k], by omega, by go_num, rfl, by simp; omega, .inl ⟨by omega, .inl ⟨rfl, ?_⟩⟩, ?_, hb.trans hb'⟩
                · rw [← HP.out, HD.out, List.append_assoc]
                  congr 1
                  exact (wordsGo_cut HQ.out (cutW_ne s st k hks hst)).symm
                · rw [List.length_append, List.map_append]
                  show w'.ownsRow _ _ _ _ _ (_ ++ [strL (cutW s st k)])
                  rw [cutW_str]
                  exact hown'
              case measure => simp [intOf]; omega
      · have hl0 : ((k : Int) == (s.size : Int)) = true := beq_iff_eq.2 (by omega)
        have HE : Hid (s.data.toList.drop k = []) := Lib.hid (List.drop_eq_nil_of_le (by rw [size_data]; omega))
        have hke : k = s.size := by omega
        have HK := Lib.hid hke
        clear hke
        rcases hinv with ⟨rfl, hp⟩ | ⟨st, rfl, hst, hp⟩
        · have HP := Lib.hid hp
          clear hp
          go_wp2
          go_roundw
          case rel =>
            refine ⟨k + 1, -1, ps, by omega, by go_num, rfl, by omega, .inr ⟨by rw [HK.out], ?_⟩, hown, hb⟩
            rw [← HP.out, HE.out]
            simp [wordsGo]
          case measure => simp [intOf]; omega
        · have HP := Lib.hid hp
          clear hp
          go_wp2_with (at_builtin; refine wpList_append1 rfl _ _ 27 rfl w.heap.size 9 rfl i0 (.string ByteArray.empty) 16 Try.underlying27 hi hz0 hz1 hz2 rfl _ ps.length _ rfl hown rfl rfl (by omega) (by omega) hsz ?_; intro v' w' hown' hb')
          go_roundw
          case rel =>
            refine ⟨k + 1, -1, ps ++ [cutW s st k], by omega, by go_num, rfl, by simp; omega, .inr ⟨by rw [HK.out], ?_⟩, ?_, hb.trans hb'⟩
            · rw [← HP.out, HE.out, wordsGo_end (cutW_ne s st k hks hst)]
            · rw [List.length_append, List.map_append]
              show w'.ownsRow _ _ _ _ _ (_ ++ [strL (cutW s st k)])
              rw [cutW_str]
              exact hown'
          case measure => simp [intOf]; omega
    · go_wp2
      go_ret
      exact ⟨⟨_, rfl, hown⟩, hb⟩

theorem splitGo_len (sep : UInt8) : ∀ (l cur : List UInt8), (splitGo sep cur l).length ≤ l.length + 1
  | [], _ => by simp [splitGo]
  | c :: r, cur => by
    rw [splitGo]
    split
    · have := splitGo_len sep r []
      simp
      omega
    · have := splitGo_len sep r (cur ++ [c])
      simp
      omega

theorem splitL_len (l : List UInt8) (sep : UInt8) : (splitL l sep).length ≤ l.length + 1 := splitGo_len sep l []

theorem wordsGo_len : ∀ (l cur : List UInt8), (wordsGo cur l).length ≤ l.length + 1
  | [], cur => by
    rw [wordsGo]
    split <;> simp
  | c :: r, cur => by
    rw [wordsGo]
    have h1 := wordsGo_len r []
    have h2 := wordsGo_len r (cur ++ [c])
    repeat' split
    all_goals simp
    all_goals omega

theorem wordsL_len (l : List UInt8) : (wordsL l).length ≤ l.length + 1 := wordsGo_len l []

theorem toList_inj {a b : ByteArray} : (a.toList = b.toList) ↔ a = b := by
  rw [ByteArray.toList_eq, ByteArray.toList_eq]
  constructor
  · intro h
    have := mk_list a h
    rw [this]
  · intro h; rw [h]

end Go.Proofs.Ytceajdpjablfiaa
