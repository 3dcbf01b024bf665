/- Contracts: lists of texts. -/
import Derived.Lib.ItoaMem
import Derived.Lib.ItoaLen
import Derived.Test.YtnecjofgjbfheaaGreatDoorProg
import Derived.Test.YtnecjofgjbfheaaGreatDoorShelf
import Derived.Test.YtnecjofgjbfheaaGreatDoorKit
import Derived.Test.YtnecjofgjbfheaaGreatDoorInfo
import Derived.Test.YtnecjofgjbfheaaGreatDoorPlain
import Derived.Test.YtnecjofgjbfheaaGreatDoorAsc1
namespace Go.Proofs.YtnecjofgjbfheaaGreatDoor
open Go.RowKit Go.Proofs
set_option maxRecDepth 100000

/-- A text as a value, by the list of its bytes. -/
def strL (l : List UInt8) : Value := .string ⟨l.toArray⟩

def splitGo (sep : UInt8) (cur : List UInt8) : List UInt8 → List (List UInt8)
  | [] => [cur]
  | c :: r => if c = sep then cur :: splitGo sep [] r else splitGo sep (cur ++ [c]) r

def splitL (l : List UInt8) (sep : UInt8) : List (List UInt8) := splitGo sep [] l

theorem splitGo_pre (sep : UInt8) : ∀ (p cur r : List UInt8), sep ∉ p → splitGo sep cur (p ++ sep :: r) = (cur ++ p) :: splitGo sep [] r
  | [], cur, r, _ => by simp [splitGo]
  | c :: p, cur, r, h => by
    have h1 : c ≠ sep := fun e => h (by simp [e])
    have h2 : sep ∉ p := fun e => h (by simp [e])
    rw [List.cons_append, splitGo, if_neg h1, splitGo_pre sep p _ r h2]
    simp

theorem splitGo_none (sep : UInt8) : ∀ (p cur : List UInt8), sep ∉ p → splitGo sep cur p = [cur ++ p]
  | [], cur, _ => by simp [splitGo]
  | c :: p, cur, h => by
    have h1 : c ≠ sep := fun e => h (by simp [e])
    have h2 : sep ∉ p := fun e => h (by simp [e])
    rw [splitGo, if_neg h1, splitGo_none sep p _ h2]
    simp

theorem indexByte_cases (l : List UInt8) (c : UInt8) : (Lib.indexByte l c = -1 ∧ c ∉ l) ∨ ∃ i : Nat, Lib.indexByte l c = i ∧ i < l.length ∧ c ∉ l.take i ∧ l = l.take i ++ c :: l.drop (i + 1) := by
  induction l with
  | nil => left; simp [Lib.indexByte]
  | cons b l ih =>
    simp only [Lib.indexByte]
    by_cases h1 : b == c
    · right
      rw [if_pos h1]
      have : b = c := by simpa using h1
      exact ⟨0, rfl, by simp, by simp, by simp [this]⟩
    · rw [if_neg h1]
      have h1' : b ≠ c := by simpa using h1
      rcases ih with ⟨h2, h3⟩ | ⟨i, h2, h3, h4, h5⟩
      · left
        rw [h2]
        simp [h3, Ne.symm h1']
      · right
        rw [h2]
        have h6 : ((i : Int) == -1) = false := beq_eq_false_iff_ne.2 (by omega)
        rw [h6]
        refine ⟨i + 1, by simp, by simp; omega, ?_, ?_⟩
        · rw [List.take_succ_cons]
          simp [h4, Ne.symm h1']
        · rw [List.take_succ_cons, List.drop_succ_cons, List.cons_append, ← h5]

theorem strL_data (t : ByteArray) : strL t.data.toList = .string t := by cases t; rfl

theorem strL_of {t : ByteArray} {l : List UInt8} (h : t.data.toList = l) : strL l = .string t := by subst h; exact strL_data t

theorem strL_take (t : ByteArray) (i : Nat) : strL (t.data.toList.take i) = .string (t.extract 0 i) := strL_of (by rw [extract_list, List.drop_zero])

theorem split_any (s : ByteArray) (sep : UInt8) (hs : s.size ≤ 1073741824) (w : World) :
    Calls Tryz.prog 53 #[.string s, .int .u8 sep.toNat] w fun e w' => (∃ v, e = .returned v ∧ w'.ownsRow w.heap.size 9 1 v (splitL s.data.toList sep).length ((splitL s.data.toList sep).map strL)) ∧ Below w.heap.size w w' := by
  obtain ⟨i0, hi, hz0, hz1, hz2⟩ := info_parts Tryz.infoStr
  go_enter Tryz.func53, Tryz.ntmps53
  go_wp2
  go_loopw [0, 4] (fun r v wr => ∃ (t : ByteArray) (ps : List (List UInt8)), r = .string t ∧ ps.length + t.size ≤ s.size ∧ ps ++ splitL t.data.toList sep = splitL s.data.toList sep ∧ wr.ownsRow w.heap.size 9 1 v ps.length (ps.map strL) ∧ Below w.heap.size w wr) (fun r _ _ => strSize r)
  case atStart => exact ⟨s, [], rfl, by simp, rfl, World.ownsRow_nil _ _ _ _, Below.refl _ _⟩
  case round =>
    obtain ⟨t, ps, rfl, hle, hps, hown, hb⟩ := hrel
    have HP := Lib.hid hps
    clear hps
    obtain ⟨wo, hwo⟩ : ∃ wo : World, wo = wr := ⟨_, rfl⟩
    subst hwo
    have hsz := hb.size
    have hbyte : sep.toNat.toUInt8 = sep := by simp
    have HBY := Lib.hid hbyte
    clear hbyte
    rcases indexByte_cases t.data.toList sep with ⟨hx, hno⟩ | ⟨i, hx, hil, hno, hcut⟩
    · have HX := Lib.hid hx
      have HN := Lib.hid (splitGo_none sep t.data.toList [] hno)
      clear hx hno
      go_wp2_with fail
      refine (Tryz.strings_IndexByte t sep.toNat _).mono ?_
      rw [show ((sep.toNat : Int).toNat).toUInt8 = sep from HBY.out, HX.out]
      rintro e w' ⟨rfl, rfl⟩
      go_wp2_with (at_builtin; refine wpList_append1 rfl _ _ 38 rfl w.heap.size 9 rfl i0 (.string ByteArray.empty) 16 Tryz.underlying38 hi hz0 hz1 hz2 rfl _ ps.length _ rfl hown rfl rfl (by omega) (by omega) hsz ?_; intro v' w' hown' hb')
      go_ret
      have e : splitL s.data.toList sep = ps ++ [t.data.toList] := by
        rw [← HP.out]
        unfold splitL
        rw [HN.out]
        rfl
      refine ⟨⟨_, rfl, ?_⟩, hb.trans hb'⟩
      rw [e, List.length_append, List.map_append]
      show w'.ownsRow _ _ _ _ _ (_ ++ [strL t.data.toList])
      rw [strL_data]
      exact hown'
    · have HX := Lib.hid hx
      have HN := Lib.hid hno
      have HC := Lib.hid hcut
      rw [size_data] at hil
      clear hx hno hcut
      go_wp2_with fail
      refine (Tryz.strings_IndexByte t sep.toNat _).mono ?_
      rw [show ((sep.toNat : Int).toNat).toUInt8 = sep from HBY.out, HX.out]
      rintro e w' ⟨rfl, rfl⟩
      go_wp2_with (at_builtin; refine wpList_append1 rfl _ _ 38 rfl w.heap.size 9 rfl i0 (.string ByteArray.empty) 16 Tryz.underlying38 hi hz0 hz1 hz2 rfl _ ps.length _ rfl hown rfl rfl (by omega) (by omega) hsz ?_; intro v' w' hown' hb')
      go_roundw
      case rel =>
        refine ⟨_, ps ++ [t.data.toList.take i], rfl, ?_, ?_, ?_, hb.trans hb'⟩
        · rw [List.length_append, ByteArray.size_extract]
          simp
          omega
        · rw [← HP.out, extract_tail, List.append_assoc]
          congr 1
          conv => rhs; rw [HC.out]
          unfold splitL
          rw [splitGo_pre sep _ [] _ HN.out]
          rfl
        · rw [List.length_append, List.map_append]
          show w'.ownsRow _ _ _ _ _ (_ ++ [strL (t.data.toList.take i)])
          rw [show strL (t.data.toList.take i) = .string (t.extract 0 i) from strL_take t i]
          exact hown'
      case measure => simp [strSize]; omega

/-- The bytes from st on, ahead of k. -/
def cutW (s : ByteArray) (st k : Nat) : List UInt8 := (s.data.toList.take k).drop st

theorem cutW_self (s : ByteArray) (k : Nat) : cutW s k k = [] := by
  unfold cutW
  exact List.drop_eq_nil_of_le (by simp; omega)

theorem cutW_snoc (s : ByteArray) (st k : Nat) (h : k < s.size) (hst : st ≤ k) : cutW s st (k + 1) = cutW s st k ++ [s[k]] := by
  unfold cutW
  rw [take_snoc s k h, List.drop_append_of_le_length (by simp; omega)]

theorem cutW_str (s : ByteArray) (st k : Nat) : strL (cutW s st k) = .string (s.extract st k) := strL_of (extract_list s st k)

theorem drop_at (s : ByteArray) (k : Nat) (h : k < s.size) : s.data.toList.drop k = s[k] :: s.data.toList.drop (k + 1) :=
  List.drop_eq_getElem_cons (by rw [size_data]; exact h)

theorem ref_split_any (s : ByteArray) (sep : UInt8) (hs : s.size ≤ 1073741824) (w : World) :
    Calls Tryz.prog 55 #[.string s, .int .u8 sep.toNat] w fun e w' => (∃ v, e = .returned v ∧ w'.ownsRow w.heap.size 9 1 v (splitL s.data.toList sep).length ((splitL s.data.toList sep).map strL)) ∧ Below w.heap.size w w' := by
  obtain ⟨i0, hi, hz0, hz1, hz2⟩ := info_parts Tryz.infoStr
  go_enter Tryz.func55, Tryz.ntmps55
  go_wp2
  go_loopw [5, 6, 7] (fun v f i wr => ∃ (k st : Nat) (ps : List (List UInt8)), k ≤ s.size ∧ i = .int .i64 k ∧ st ≤ k ∧ f = .int .i64 st ∧ ps.length ≤ k ∧ ps ++ splitGo sep (cutW s st k) (s.data.toList.drop k) = splitL s.data.toList sep ∧ wr.ownsRow w.heap.size 9 1 v ps.length (ps.map strL) ∧ Below w.heap.size w wr) (fun _ _ i _ => s.size - (intOf i).toNat)
  case atStart => exact ⟨0, 0, [], Nat.zero_le _, rfl, Nat.le_refl _, rfl, by simp, by rw [cutW_self]; rfl, World.ownsRow_nil _ _ _ _, Below.refl _ _⟩
  case round =>
    obtain ⟨k, st, ps, hk, rfl, hst, rfl, hle, hps, hown, hb⟩ := hrel
    have HP := Lib.hid hps
    clear hps
    have hsz := hb.size
    by_cases hlt : k < s.size
    · have HD := Lib.hid (drop_at s k hlt)
      have HC := Lib.hid (cutW_snoc s st k hlt hst)
      by_cases hq : s[k] = sep
      · have hq0 : ((s[k].toNat : Int) == (sep.toNat : Int)) = true := by rw [hq]; exact beq_iff_eq.2 rfl
        have HQ := Lib.hid hq
        clear hq
        go_wp2_with (at_builtin; refine wpList_append1 rfl _ _ 38 rfl w.heap.size 9 rfl i0 (.string ByteArray.empty) 16 Tryz.underlying38 hi hz0 hz1 hz2 rfl _ ps.length _ rfl hown rfl rfl (by omega) (by omega) hsz ?_; intro v' w' hown' hb')
        go_roundw
        case rel =>
          refine ⟨k + 1, k + 1, ps ++ [cutW s st k], by omega, by go_num, Nat.le_refl _, by go_num, by simp; omega, ?_, ?_, hb.trans hb'⟩
          · rw [← HP.out, HD.out, cutW_self, List.append_assoc]
            congr 1
            rw [splitGo, if_pos HQ.out]
            rfl
          · rw [List.length_append, List.map_append]
            show w'.ownsRow _ _ _ _ _ (_ ++ [strL (cutW s st k)])
            rw [cutW_str]
            exact hown'
        case measure => simp [intOf]; omega
      · have hq0 : ((s[k].toNat : Int) == (sep.toNat : Int)) = false := beq_eq_false_iff_ne.2 fun e => hq (UInt8.toNat_inj.1 (by omega))
        have HQ := Lib.hid hq
        clear hq
        go_wp2
        go_roundw
        case rel =>
          refine ⟨k + 1, st, ps, by omega, by go_num, by omega, rfl, by omega, ?_, hown, hb⟩
          rw [← HP.out, HD.out, HC.out]
          congr 1
          conv => rhs; rw [splitGo, if_neg HQ.out]
        case measure => simp [intOf]; omega
    · go_wp2_with (at_builtin; refine wpList_append1 rfl _ _ 38 rfl w.heap.size 9 rfl i0 (.string ByteArray.empty) 16 Tryz.underlying38 hi hz0 hz1 hz2 rfl _ ps.length _ rfl hown rfl rfl (by omega) (by omega) hsz ?_; intro v' w' hown' hb')
      go_ret
      have e : splitL s.data.toList sep = ps ++ [s.data.toList.drop st] := by
        rw [← HP.out, List.drop_eq_nil_of_le (by rw [size_data]; omega)]
        unfold cutW
        rw [List.take_of_length_le (by rw [size_data]; omega)]
        rfl
      refine ⟨⟨_, rfl, ?_⟩, hb.trans hb'⟩
      rw [e, List.length_append, List.map_append]
      show w'.ownsRow _ _ _ _ _ (_ ++ [strL (s.data.toList.drop st)])
      rw [show strL (s.data.toList.drop st) = .string (s.extract st s.size) from strL_of (extract_tail s st)]
      exact hown'

theorem splitGo_len (sep : UInt8) : ∀ (l cur : List UInt8), (splitGo sep cur l).length ≤ l.length + 1
  | [], _ => by simp [splitGo]
  | c :: r, cur => by
    rw [splitGo]
    split
    · have := splitGo_len sep r []
      simp
      omega
    · have := splitGo_len sep r (cur ++ [c])
      simp
      omega

theorem splitL_len (l : List UInt8) (sep : UInt8) : (splitL l sep).length ≤ l.length + 1 := splitGo_len sep l []

def numVal (l : List UInt8) : Int := l.foldl (fun n c => 10 * n + ((c.toNat : Int) - 48)) 0

def numOk (l : List UInt8) (max : Int) : Bool := decide (l ≠ [] ∧ (l.length : Int) ≤ max ∧ l.length ≤ 18 ∧ (l.head? = some 48 → l = [48])) && l.all (fun c => isDig c.toNat)

def numN (l : List UInt8) (max : Int) : Int := if numOk l max = true then numVal l else 0

theorem numVal_snoc (l : List UInt8) (c : UInt8) : numVal (l ++ [c]) = 10 * numVal l + ((c.toNat : Int) - 48) := by unfold numVal; rw [List.foldl_append]; rfl

theorem isDig_bd {n : Int} (h : isDig n = true) : 48 ≤ n ∧ n ≤ 57 := of_decide_eq_true h

theorem numVal_bd (l : List UInt8) : l.all (fun c => isDig c.toNat) = true → 0 ≤ numVal l ∧ numVal l < 10 ^ l.length := by
  suffices h : ∀ (r : List UInt8), r.reverse.all (fun c => isDig c.toNat) = true → 0 ≤ numVal r.reverse ∧ numVal r.reverse < 10 ^ r.length by
    intro hl
    have := h l.reverse (by rwa [List.reverse_reverse])
    rwa [List.reverse_reverse, List.length_reverse] at this
  intro r
  induction r with
  | nil => intro _; simp [numVal]
  | cons c r ih =>
    intro h
    rw [List.reverse_cons, List.all_append] at h
    simp only [Bool.and_eq_true, List.all_cons, List.all_nil, and_true] at h
    have h1 := ih h.1
    have h2 := isDig_bd h.2
    rw [List.reverse_cons, numVal_snoc, List.length_cons, Int.pow_succ]
    omega

theorem numN_no {l : List UInt8} {max : Int} (h : numOk l max = false) : numN l max = 0 := by unfold numN; rw [h]; rfl

theorem numN_yes {l : List UInt8} {max : Int} (h : numOk l max = true) : numN l max = numVal l := by unfold numN; rw [h]; rfl

theorem ret_nb {k : IntKind} {a b : Int} {p q : Bool} (h : a = b) (h2 : p = q) : Ending.returned (.tuple #[.int k a, .bool p]) = .returned (.tuple #[.int k b, .bool q]) := by rw [h, h2]

theorem numBig {v : Int} {k : Nat} (h : 0 ≤ v ∧ v < 10 ^ k) (hk : k ≤ 17) : 0 ≤ v ∧ v ≤ 99999999999999999 := by
  have h2 : (10 : Int) ^ k ≤ 10 ^ 17 := by
    have := Nat.pow_le_pow_right (n := 10) (by decide) hk
    exact_mod_cast this
  have h3 : (10 : Int) ^ 17 = 100000000000000000 := by decide
  omega

theorem numOk_bad (s : ByteArray) (max : Int) (k : Nat) (h : k < s.size) (hq : isDig s[k].toNat = false) : numOk s.data.toList max = false := by
  unfold numOk
  have : s.data.toList.all (fun c => isDig c.toNat) = false := by
    rw [List.all_eq_false]
    exact ⟨s[k], by rw [Array.mem_toList_iff]; exact Array.getElem_mem _, by simp [hq]⟩
  rw [this, Bool.and_false]

theorem numOk_good (s : ByteArray) (max : Int) (h0 : s.size ≠ 0) (h1 : (s.size : Int) ≤ max) (h2 : s.size ≤ 18) (hz : s.data.toList.head? = some 48 → s.data.toList = [48]) (hall : s.data.toList.all (fun c => isDig c.toNat) = true) : numOk s.data.toList max = true := by
  unfold numOk
  rw [hall, Bool.and_true]
  refine decide_eq_true ⟨fun e => h0 (by rw [← size_data, e]; rfl), by rw [size_data]; exact h1, by rw [size_data]; exact h2, hz⟩

theorem numOk_long (s : ByteArray) (max : Int) (h : max < s.size ∨ 18 < s.size) : numOk s.data.toList max = false := by
  unfold numOk
  rw [decide_eq_false, Bool.false_and]
  rintro ⟨_, h1, h2, _⟩
  rw [size_data] at h1 h2
  omega

theorem numOk_zero (s : ByteArray) (max : Int) (h1 : s.data.toList.head? = some 48) (h2 : s.data.toList ≠ [48]) : numOk s.data.toList max = false := by
  unfold numOk
  rw [decide_eq_false, Bool.false_and]
  rintro ⟨_, _, _, h⟩
  exact h2 (h h1)

theorem head_of (s : ByteArray) (h : 0 < s.size) : s.data.toList.head? = some s[0] := by rw [cons_of s h]; rfl

theorem byte_eq_iff (c : UInt8) (n : Nat) (hn : n < 256) : c = UInt8.ofNat n ↔ (c.toNat : Int) = n := by
  rw [← UInt8.toNat_inj, UInt8.toNat_ofNat', Nat.mod_eq_of_lt (by omega)]
  omega

theorem number_any (s : ByteArray) (max : Int) (_hs : s.size ≤ 1073741824) (hm : -9223372036854775808 ≤ max ∧ max ≤ 9223372036854775807) (w : World) :
    Calls Tryz.prog 97 #[.string s, .int .i64 max] w fun e w' => e = .returned (.tuple #[.int .i64 (numN s.data.toList max), .bool (numOk s.data.toList max)]) ∧ w' = w := by
  by_cases h0 : s.size = 0
  · have he := emptyYes h0
    have HO : Hid (numOk s.data.toList max = false) := Lib.hid (by rw [nil_of_size h0]; rfl)
    clear h0
    by_cases hmx : 18 < max
    all_goals
      go_enter Tryz.func97, Tryz.ntmps97
      go_wp2
      go_ret2
      exact ⟨ret_nb (numN_no HO.out).symm HO.out.symm, rfl⟩
  · have he := emptyNo h0
    have hpos : 0 < s.size := by omega
    have hx0 : (0 : Int) < (s.size : Int) := by omega
    have hcase : (18 < max ∧ 18 < (s.size : Int)) ∨ (max ≤ 18 ∧ max < (s.size : Int)) ∨ (18 < max ∧ (s.size : Int) ≤ 18) ∨ (max ≤ 18 ∧ (s.size : Int) ≤ max) := by omega
    rcases hcase with ⟨ha, hb⟩ | ⟨ha, hb⟩ | hshort
    · have HO := Lib.hid (numOk_long s max (by omega))
      go_enter Tryz.func97, Tryz.ntmps97
      go_wp2
      go_ret2
      exact ⟨ret_nb (numN_no HO.out).symm HO.out.symm, rfl⟩
    · have HO := Lib.hid (numOk_long s max (by omega))
      go_enter Tryz.func97, Tryz.ntmps97
      go_wp2
      go_ret2
      exact ⟨ret_nb (numN_no HO.out).symm HO.out.symm, rfl⟩
    · have h18 : s.size ≤ 18 := by omega
      have hmax : (s.size : Int) ≤ max := by omega
      have hh := head_of s hpos
      have hb48 := byte_eq_iff s[0] 48 (by decide)
      have hzz : ((s[0].toNat : Int) = 48 ∧ 1 < s.size) ∨ ((s[0].toNat : Int) = 48 ∧ s.size = 1) ∨ (s[0].toNat : Int) ≠ 48 := by omega
      rcases hzz with ⟨hz, h1⟩ | hrest
      · have hz0 : ((s[0].toNat : Int) == 48) = true := beq_iff_eq.2 hz
        have hone0 : (s.toList == [48]) = false := by
          rw [ByteArray.toList_eq]
          refine beq_eq_false_iff_ne.2 fun e => ?_
          have := congrArg List.length e
          rw [size_data] at this
          simp at this
          omega
        have HO := Lib.hid (numOk_zero s max (by rw [hh, hb48.2 hz]; rfl) (fun e => by
          have := congrArg List.length e
          rw [size_data] at this
          simp at this
          omega))
        clear hz hh hb48
        rcases hshort with ⟨ha, hb⟩ | ⟨ha, hb⟩
        all_goals
          go_enter Tryz.func97, Tryz.ntmps97
          go_wp2
          go_ret2
          exact ⟨ret_nb (numN_no HO.out).symm HO.out.symm, rfl⟩
      · have HZ : Hid (s.data.toList.head? = some 48 → s.data.toList = [48]) := Lib.hid fun e => by
          rcases hrest with ⟨hz, h1⟩ | hz
          · have hc := cons_of s hpos
            rw [hc, List.drop_eq_nil_of_le (by rw [size_data]; omega)]
            rw [show s[0] = 48 from hb48.2 hz]
          · exact absurd (hb48.1 (by rw [hh] at e; exact Option.some.inj e)) hz
        have hz0 : (((s[0].toNat : Int) == 48) = true ∧ (s.toList == [48]) = true) ∨ ((s[0].toNat : Int) == 48) = false := by
          rcases hrest with ⟨hz, h1⟩ | hz
          · refine .inl ⟨beq_iff_eq.2 hz, ?_⟩
            rw [ByteArray.toList_eq, HZ.out (by rw [hh, hb48.2 hz]; rfl)]
            rfl
          · exact .inr (beq_eq_false_iff_ne.2 hz)
        clear hrest hh hb48
        rcases hz0 with ⟨hz0, h1⟩ | hz0
        all_goals
          rcases hshort with ⟨ha, hb⟩ | ⟨ha, hb⟩
          all_goals
            go_enter Tryz.func97, Tryz.ntmps97
            go_wp2
            go_loop [4, 25] (fun n i => ∃ (k : Nat) (v : Int), k ≤ s.size ∧ i = .int .i64 k ∧ n = .int .i64 v ∧ v = numVal (s.data.toList.take k) ∧ (s.data.toList.take k).all (fun c => isDig c.toNat) = true) (fun _ i => s.size - (intOf i).toNat)
            case atStart => exact ⟨0, 0, Nat.zero_le _, rfl, rfl, rfl, rfl⟩
            case round =>
              obtain ⟨k, v, hk, rfl, rfl, hv, hall⟩ := hrel
              have HV := Lib.hid hv
              have HA := Lib.hid hall
              have hlen : (s.data.toList.take k).length = k := by rw [List.length_take, size_data]; omega
              have hbd : 0 ≤ v ∧ v < 10 ^ k := by
                have := numVal_bd _ hall
                rw [← hv, hlen] at this
                exact this
              clear hv hall
              by_cases hlt : k < s.size
              · have hbd2 : 0 ≤ v ∧ v ≤ 99999999999999999 := numBig hbd (by omega)
                have hcb := byte_bd s[k]
                clear hbd hlen
                cases hq : isDig s[k].toNat
                · have HQ := Lib.hid hq
                  have HO := Lib.hid (numOk_bad s max k hlt hq)
                  clear hq
                  go_wp2_with (go_at_call 124; refine (digit_byte _ _).mono ?_; rw [HQ.out]; rintro e w' ⟨rfl, rfl⟩)
                  go_ret2
                  exact ⟨ret_nb (numN_no HO.out).symm HO.out.symm, rfl⟩
                · have HQ := Lib.hid hq
                  have hd := isDig_bd hq
                  clear hq
                  go_wp2_with (go_at_call 124; refine (digit_byte _ _).mono ?_; rw [HQ.out]; rintro e w' ⟨rfl, rfl⟩)
                  go_round
                  case rel =>
                    refine ⟨k + 1, 10 * v + (s[k].toNat - 48), by omega, by go_num, by go_num, ?_, ?_⟩
                    · rw [take_snoc s k hlt, numVal_snoc, ← HV.out]
                    · rw [take_snoc s k hlt, List.all_append, HA.out]
                      simp [HQ.out]
                  case measure => simp [intOf]; omega
              · have hfull : s.data.toList.take k = s.data.toList := List.take_of_length_le (by rw [size_data]; omega)
                have HF := Lib.hid hfull
                have HO : Hid (numOk s.data.toList max = true) := Lib.hid (numOk_good s max (by omega) (by omega) (by omega) HZ.out (by rw [← HF.out]; exact HA.out))
                clear hfull hlen
                go_wp2
                go_ret2
                exact ⟨ret_nb (by rw [numN_yes HO.out, HV.out, HF.out]) HO.out.symm, rfl⟩

/-- Is the text among those? -/
def hasS (zs : List ByteArray) (x : ByteArray) : Bool := Lib.containsS zs x

theorem hasS_iff (zs : List ByteArray) (x : ByteArray) : hasS zs x = true ↔ x ∈ zs := Lib.containsS_iff zs x

theorem hasS_nil (x : ByteArray) : hasS [] x = false := by
  cases h : hasS [] x
  · rfl
  · rw [hasS_iff] at h; cases h

theorem strs_getD {w : World} {b off : Nat} {zs : List ByteArray} (hc : ∀ (j : Nat) (x : Value), (zs.map strV)[j]? = some x → w.cell? ⟨b, off + j, none⟩ = some x) :
    ∀ j, j < zs.length → w.cell? ⟨b, off + j, none⟩ = some (.string (zs.getD j ByteArray.empty)) := by
  intro j hj
  refine hc j _ ?_
  rw [List.getElem?_map, List.getElem?_eq_getElem hj]
  simp [strV, List.getD, List.getElem?_eq_getElem hj]

theorem contains_str_any (v : Value) (zs : List ByteArray) (x : ByteArray) (w : World) (hl : zs.length ≤ 1073741824) (hv : SliceAt w v (zs.map strV)) :
    Calls Tryz.prog 109 #[v, .string x] w fun e w' => e = .returned (.bool (hasS zs x)) ∧ w' = w := by
  by_cases hne : zs = []
  · subst hne
    obtain ⟨a, c, rfl⟩ := hv.empty
    rw [hasS_nil]
    exact Tryz.slices_Contains_string_empty a c x w
  · obtain ⟨b, off, c, rfl, hc⟩ := hv.at (by simpa using hne)
    have h := Tryz.slices_Contains_string b off zs.length c zs x w (Nat.le_refl _) (by omega) (strs_getD hc)
    rw [List.take_of_length_le (Nat.le_refl _)] at h
    rw [List.length_map]
    exact h

theorem oneOf_str_any (v : Value) (zs : List ByteArray) (x : ByteArray) (w : World) (hl : zs.length ≤ 1073741824) (hv : SliceAt w v (zs.map strV)) :
    Calls Tryz.prog 85 #[.string x, v] w fun e w' => e = .returned (.bool (hasS zs x)) ∧ w' = w := by
  go_enter Tryz.func85, Tryz.ntmps85
  go_wp2_with fail
  refine (contains_str_any v zs x w hl hv).mono ?_
  rintro e w' ⟨rfl, rfl⟩
  go_wp2
  go_ret
  exact ⟨rfl, rfl⟩

theorem any_any (v : Value) (zs : List ByteArray) (x : ByteArray) (w : World) (hl : zs.length ≤ 1073741824) (hv : SliceAt w v (zs.map strV)) :
    Calls Tryz.prog 47 #[.string x, v] w fun e w' => e = .returned (.bool (hasS zs x)) ∧ w' = w := by
  go_enter Tryz.func47, Tryz.ntmps47
  go_wp2_with fail
  refine (oneOf_str_any v zs x w hl hv).mono ?_
  rintro e w' ⟨rfl, rfl⟩
  go_wp2
  go_ret
  exact ⟨rfl, rfl⟩

theorem toList_inj {a b : ByteArray} : (a.toList = b.toList) ↔ a = b := by
  rw [ByteArray.toList_eq, ByteArray.toList_eq]
  constructor
  · intro h
    have := mk_list a h
    rw [this]
  · intro h; rw [h]

theorem str_in_any (v : Value) (zs : List ByteArray) (x : ByteArray) (w : World) (hl : zs.length ≤ 1073741824) (hv : SliceAt w v (zs.map strV)) :
    Calls Tryz.prog 66 #[.string x, v] w fun e w' => e = .returned (.bool (hasS zs x)) ∧ w' = w := by
  by_cases hne : zs = []
  · subst hne
    obtain ⟨a, cp, rfl⟩ := hv.empty
    go_enter Tryz.func66, Tryz.ntmps66
    go_wp2
    refine wp_loop_rounds 1 ?_
    rw [rounds_succ]
    go_wp2
    go_ret
    exact ⟨ret_bool (hasS_nil x).symm, rfl⟩
  · obtain ⟨b, off, cp, rfl, hc⟩ := hv.at (by simpa using hne)
    rw [List.length_map]
    have HC := Lib.hid hc
    clear hc hv
    go_enter Tryz.func66, Tryz.ntmps66
    go_wp2
    go_loop [5] (fun i => ∃ k : Nat, k ≤ zs.length ∧ i = .int .i64 k ∧ x ∉ zs.take k) (fun i => zs.length - (intOf i).toNat)
    case atStart => exact ⟨0, Nat.zero_le _, rfl, by simp⟩
    case round =>
      obtain ⟨k, hk, rfl, hno⟩ := hrel
      have HN := Lib.hid hno
      clear hno
      by_cases hlt : k < zs.length
      · obtain ⟨d, hd⟩ : ∃ d, zs[k]? = some d := ⟨_, List.getElem?_eq_getElem hlt⟩
        have hcell := HC.out k (.string d) (by rw [List.getElem?_map, hd]; rfl)
        by_cases hq : d = x
        · have hq0 : (d.toList == x.toList) = true := by rw [hq]; exact beq_iff_eq.2 rfl
          have HF : Hid (hasS zs x = true) := Lib.hid ((hasS_iff zs x).2 (by rw [← hq]; exact List.mem_of_getElem? hd))
          clear hq hd
          go_wp2
          go_ret
          exact ⟨ret_bool HF.out.symm, rfl⟩
        · have hq0 : (d.toList == x.toList) = false := beq_eq_false_iff_ne.2 fun e => hq (toList_inj.1 e)
          have HF : Hid (x ∉ zs.take (k + 1)) := Lib.hid (by
            rw [take_succ_of hd]
            intro h
            rcases List.mem_append.1 h with h | h
            · exact HN.out h
            · exact hq (List.mem_singleton.1 h).symm)
          clear hq hd
          go_wp2
          go_round
          case rel => exact ⟨k + 1, by omega, by go_num, HF.out⟩
          case measure => simp [intOf]; omega
      · have hfin := HN.out
        rw [List.take_of_length_le (by omega)] at hfin
        have HF : Hid (hasS zs x = false) := Lib.hid (by
          cases h : hasS zs x
          · rfl
          · exact absurd ((hasS_iff zs x).1 h) hfin)
        clear hfin
        go_wp2
        go_ret
        exact ⟨ret_bool HF.out.symm, rfl⟩

/-- The sum of lengths, as far as it goes: if it is at most the bound, so are the list's length and each text's. -/
theorem total_any (v : Value) (zs : List ByteArray) (m : Int) (w : World) (hm : 0 ≤ m ∧ m ≤ 1073741824) (hl : zs.length ≤ 281474976710656) (hz : ∀ z ∈ zs, z.size ≤ 281474976710656) (hv : SliceAt w v (zs.map strV)) :
    Calls Tryz.prog 24 #[v, .int .i64 m] w fun e w' => (∃ r : Int, e = .returned (.int .i64 r) ∧ (zs.length : Int) ≤ r ∧ r ≤ 1125899906842624) ∧ w' = w := by
  by_cases hne : zs = []
  · subst hne
    obtain ⟨a, cp, rfl⟩ := hv.empty
    go_enter Tryz.func24, Tryz.ntmps24
    go_wp2
    refine wp_loop_rounds 1 ?_
    rw [rounds_succ]
    go_wp2
    go_ret
    exact ⟨⟨0, rfl, by simp, by decide⟩, rfl⟩
  · obtain ⟨b, off, cp, rfl, hc⟩ := hv.at (by simpa using hne)
    rw [List.length_map]
    have HC := Lib.hid hc
    have HZ := Lib.hid hz
    clear hc hv hz
    go_enter Tryz.func24, Tryz.ntmps24
    go_wp2
    go_loop [5, 6] (fun n i => ∃ (k : Nat) (r : Int), k ≤ zs.length ∧ i = .int .i64 k ∧ n = .int .i64 r ∧ (zs.length : Int) ≤ r ∧ r ≤ 1125899906842624) (fun _ i => zs.length - (intOf i).toNat)
    case atStart => exact ⟨0, zs.length, Nat.zero_le _, rfl, rfl, Int.le_refl _, by omega⟩
    case round =>
      obtain ⟨k, r, hk, rfl, rfl, hr1, hr2⟩ := hrel
      by_cases hlt : k < zs.length
      · obtain ⟨d, hd⟩ : ∃ d, zs[k]? = some d := ⟨_, List.getElem?_eq_getElem hlt⟩
        have hcell := HC.out k (.string d) (by rw [List.getElem?_map, hd]; rfl)
        have hds := HZ.out d (List.mem_of_getElem? hd)
        clear hd
        by_cases hrm : r ≤ m
        · go_wp2
          go_round
          case rel => exact ⟨k + 1, r + d.size, by omega, by go_num, by go_num, by omega, by omega⟩
          case measure => simp [intOf]; omega
        · go_wp2
          go_ret
          exact ⟨⟨r, rfl, hr1, hr2⟩, rfl⟩
      · go_wp2
        go_ret
        exact ⟨⟨r, rfl, hr1, hr2⟩, rfl⟩

theorem below_grow (w : World) (k : Nat) (os : Array Obj) : Below w.heap.size w (Sort.grow (w.drewN k) os) :=
  ⟨rfl, rfl, rfl, by
    show w.heap.size ≤ (w.heap ++ os).size
    simp, fun i hi => by
    show (w.heap ++ os)[i]? = w.heap[i]?
    rw [Array.getElem?_append_left hi]⟩

theorem tab_below {P : Program} {W W' : World} {n : String} {k : IntKind} {zs : List Int} (h : Below W.heap.size W W') (ht : Lib.TabIs P W n k zs) : Lib.TabIs P W' n k zs := by
  unfold Lib.TabIs at *
  cases hg : P.globalNamed n with
  | none => unfold World.var? at ht; rw [hg] at ht; cases ht
  | some g =>
    refine var?_below h hg ?_ ht
    rcases Nat.lt_or_ge g W.heap.size with hlt | hge
    · exact hlt
    · unfold World.var? at ht
      rw [hg] at ht
      simp [Array.getElem?_eq_none hge] at ht

theorem decimal_any (n : Int) (hn : -9223372036854775808 ≤ n ∧ n ≤ 9223372036854775807) (w : World) (htab : Lib.TabIs Tryz.prog w "internal/strconv.uint64pow10" .u64 Lib.pow10Tab) :
    Calls Tryz.prog 130 #[.int .i64 n] w fun e w' => e = .returned (.string ⟨(Lib.itoa n).toArray⟩) ∧ Below w.heap.size w w' := by
  have HT := Lib.hid htab
  clear htab
  go_enter Tryz.func130, Tryz.ntmps130
  go_wp2_with fail
  refine (Tryz.strconv_Itoa n hn.1 hn.2 w HT.out).mono ?_
  rintro e w1 ⟨rfl, k, os, rfl⟩
  have hb := below_grow w k os
  generalize Sort.grow (w.drewN k) os = w1 at hb ⊢
  go_wp2
  go_ret
  exact ⟨rfl, hb⟩

/-- The digits of a number above 0; none of 0. -/
def ddI (q : Int) : List UInt8 := if q ≤ 0 then [] else Lib.decDigits q.toNat

def ddB (q : Int) : UInt8 := UInt8.ofNat (48 + q.toNat % 10)

theorem ddI_zero {q : Int} (h : q ≤ 0) : ddI q = [] := by unfold ddI; rw [if_pos h]

theorem ddI_step {q : Int} (h : 0 < q) : ddI q = ddI (q / 10) ++ [ddB q] := by
  unfold ddI ddB
  rw [if_neg (by omega), Lib.decDigits]
  by_cases h10 : q.toNat < 10
  · rw [dif_pos h10, if_pos (by omega), Nat.mod_eq_of_lt h10]
    rfl
  · rw [dif_neg h10, if_neg (by omega), show (q / 10).toNat = q.toNat / 10 from by omega]

theorem ddB_val {q : Int} (h : 0 < q) : Value.int .u8 (48 + q % 10) = byteV (ddB q) := by
  unfold byteV ddB
  rw [UInt8.toNat_ofNat', Nat.mod_eq_of_lt (by omega)]
  congr 1
  omega

theorem ddI_len {q : Int} (h0 : 0 ≤ q) (h1 : q ≤ 9223372036854775808) : (ddI q).length ≤ 21 := by
  unfold ddI
  split
  · simp
  · have := Lib.itoa_length_le (-q) (by omega) (by omega)
    unfold Lib.itoa at this
    rw [if_pos (by omega), show (-q).natAbs = q.toNat from by omega] at this
    simp at this
    omega

theorem itoa_pos {n : Int} (h : 0 < n) : Lib.itoa n = ddI n := by unfold Lib.itoa ddI; rw [if_neg (by omega), if_neg (by omega)]

theorem itoa_minus {n : Int} (h : n < 0) : Lib.itoa n = 45 :: ddI (-n) := by
  unfold Lib.itoa ddI
  rw [if_pos h, if_neg (by omega), show (-n).toNat = n.natAbs from by omega]

theorem wrap_neg (m : Int) (h0 : 0 < m) (h1 : m ≤ 9223372036854775808) : IntKind.u64.wrap (-IntKind.u64.wrap (-m)) = m := by
  simp only [IntKind.wrap_u64]
  omega

theorem ref_decimal_neg (m : Int) (hm : 0 < m ∧ m ≤ 9223372036854775808) (w : World) :
    Calls Tryz.prog 115 #[.int .i64 (-m)] w fun e w' => e = .returned (.string ⟨(Lib.itoa (-m)).toArray⟩) ∧ Below w.heap.size w w' := by
  obtain ⟨i0, hi, hz0, hz1, hz2⟩ := info_parts Tryz.infoByte
  have hw := wrap_neg m hm.1 hm.2
  have hn0 : (-m == 0) = false := beq_eq_false_iff_ne.2 (by omega)
  have HI : Hid (Lib.itoa (-m) = [45] ++ ddI m) := Lib.hid (by rw [itoa_minus (by omega), Int.neg_neg]; rfl)
  have hdl := ddI_len (q := m) (by omega) (by omega)
  go_enter Tryz.func115, Tryz.ntmps115
  go_wp2
  go_loopw [3, 4] (fun u v wr => ∃ (q : Int) (l : List UInt8), u = .int .u64 q ∧ 0 ≤ q ∧ q ≤ m ∧ l.length ≤ 21 ∧ ddI m = ddI q ++ l.reverse ∧ wr.ownsRow w.heap.size 5 1 v l.length (l.map byteV) ∧ Below w.heap.size w wr) (fun u _ _ => (intOf u).toNat)
  case atStart => exact ⟨m, [], rfl, by omega, Int.le_refl _, by simp, by simp, World.ownsRow_nil _ _ _ _, Below.refl _ _⟩
  case round =>
    clear hw; clear hn0
    obtain ⟨q, l, rfl, hq0, hq1, hll, hdd, hown, hb⟩ := hrel
    have HD := Lib.hid hdd
    clear hdd
    have hsz := hb.size
    by_cases hq : 0 < q
    · have HS := Lib.hid (ddI_step hq)
      have HV := Lib.hid (ddB_val hq)
      have hnew : l.length + 1 ≤ 21 := by
        have := congrArg List.length HD.out
        rw [HS.out, List.length_append, List.length_append, List.length_reverse] at this
        simp at this
        omega
      have hmod : 0 ≤ q % 10 ∧ q % 10 ≤ 9 := by omega
      have hdiv : 0 ≤ q / 10 ∧ q / 10 < q := by omega
      go_wp2_with (at_builtin; refine wpList_append1 rfl _ _ 76 rfl w.heap.size 5 rfl i0 (.int .u8 0) 1 Tryz.underlying76 hi hz0 hz1 hz2 rfl _ l.length _ rfl hown rfl rfl (by omega) (by omega) hsz ?_; intro v' w' hown' hb')
      go_roundw
      case rel =>
        refine ⟨q / 10, l ++ [ddB q], rfl, hdiv.1, by omega, by simp; omega, ?_, ?_, hb.trans hb'⟩
        · rw [HD.out, HS.out]
          simp
        · rw [HV.out] at hown'
          rw [List.length_append, List.map_append]
          exact hown'
      case measure => simp [intOf]; omega
    · have HF : Hid (ddI m = l.reverse) := Lib.hid (by rw [HD.out, ddI_zero (by omega)]; rfl)
      obtain ⟨ab, cb, rfl, hsl⟩ := SliceAt.own hown
      rw [List.length_map]
      have HSL := Lib.hid hsl
      clear hsl hown hq0 hq1
      obtain ⟨w1, hw1⟩ : ∃ w1 : World, w1 = wr := ⟨_, rfl⟩
      subst hw1
      go_wp2_with (at_builtin; refine wpList_append1 rfl _ _ 76 rfl w1.heap.size 5 rfl i0 (.int .u8 0) 1 Tryz.underlying76 hi hz0 hz1 hz2 rfl _ 0 _ rfl (World.ownsRow_nil _ _ _ _) rfl rfl (by omega) (by omega) (Nat.le_refl _) ?_; intro vo wo hown0 hb0)
      go_loopw [5, 6] (fun o i w2 => ∃ (j : Nat) (ii : Int), i = .int .i64 ii ∧ ii = (j : Int) - 1 ∧ j ≤ l.length ∧ w2.ownsRow w1.heap.size 5 1 o (1 + (l.length - j)) (([45] ++ (l.drop j).reverse).map byteV) ∧ Below w1.heap.size w1 w2) (fun _ i _ => (intOf i + 1).toNat)
      case atStart => exact ⟨l.length, _, rfl, rfl, Nat.le_refl _, by rw [show 1 + (l.length - l.length) = 0 + 1 from by omega, List.drop_length]; exact hown0, hb0⟩
      case round =>
        obtain ⟨j, ii, rfl, hij, hj, hown2, hb2⟩ := hrel
        have hsz2 := hb2.size
        cases j with
        | zero =>
          have HE : Hid ([45] ++ (l.drop 0).reverse = Lib.itoa (-m)) := Lib.hid (by rw [HI.out, HF.out]; rfl)
          rw [HE.out] at hown2
          have kc := run_convert_own (P := Tryz.prog) 76 5 9 Tryz.underlying76 Tryz.underlying5 Tryz.underlying9 hown2
          have hneg : ii < 0 := by omega
          clear hij
          go_wp2
          go_ret
          exact ⟨rfl, below_then hb hb2⟩
        | succ k =>
          obtain rfl : ii = (k : Int) := by omega
          clear hij
          obtain ⟨c, hc0⟩ : ∃ c, l[k]? = some c := ⟨_, List.getElem?_eq_getElem (by omega)⟩
          have hdrop : l.drop k = c :: l.drop (k + 1) := by
            obtain ⟨hk, rfl⟩ := List.getElem?_eq_some_iff.1 hc0
            exact List.drop_eq_getElem_cons hk
          have HDR := Lib.hid hdrop
          clear hdrop
          rcases HSL.out with hnil | ⟨bb, off, rfl, hc⟩
          · exact absurd (show l.length = 0 by rw [List.map_eq_nil_iff.1 hnil]; rfl) (by omega)
          · have hc1 := hc k (.int .u8 c.toNat) (by rw [List.getElem?_map, hc0]; rfl)
            have hcell : wr.cell? ⟨bb, off + k, none⟩ = some (.int .u8 c.toNat) := (hb2.cell (block_of_cell hc1)).trans hc1
            clear hc hc1 hc0
            go_wp2_with (at_builtin; refine wpList_append1 rfl _ _ 76 rfl w1.heap.size 5 rfl i0 (.int .u8 0) 1 Tryz.underlying76 hi hz0 hz1 hz2 rfl _ _ _ rfl hown2 rfl rfl (by omega) (by omega) hsz2 ?_; intro v' w' hown' hb')
            go_roundw
            case rel =>
              refine ⟨k, _, rfl, rfl, by omega, ?_, hb2.trans hb'⟩
              rw [HDR.out, List.reverse_cons, ← List.append_assoc, List.map_append, show 1 + (l.length - k) = 1 + (l.length - (k + 1)) + 1 from by omega]
              exact hown'
            case measure => simp [intOf]

theorem ref_decimal_pos (m : Int) (hm : 0 < m ∧ m ≤ 9223372036854775807) (w : World) :
    Calls Tryz.prog 115 #[.int .i64 m] w fun e w' => e = .returned (.string ⟨(Lib.itoa (m)).toArray⟩) ∧ Below w.heap.size w w' := by
  obtain ⟨i0, hi, hz0, hz1, hz2⟩ := info_parts Tryz.infoByte
  have hn0 : (m == 0) = false := beq_eq_false_iff_ne.2 (by omega)
  have HI : Hid (Lib.itoa m = [] ++ ddI m) := Lib.hid (by rw [itoa_pos hm.1]; rfl)
  have hdl := ddI_len (q := m) (by omega) (by omega)
  go_enter Tryz.func115, Tryz.ntmps115
  go_wp2
  go_loopw [3, 4] (fun u v wr => ∃ (q : Int) (l : List UInt8), u = .int .u64 q ∧ 0 ≤ q ∧ q ≤ m ∧ l.length ≤ 21 ∧ ddI m = ddI q ++ l.reverse ∧ wr.ownsRow w.heap.size 5 1 v l.length (l.map byteV) ∧ Below w.heap.size w wr) (fun u _ _ => (intOf u).toNat)
  case atStart => exact ⟨m, [], rfl, by omega, Int.le_refl _, by simp, by simp, World.ownsRow_nil _ _ _ _, Below.refl _ _⟩
  case round =>
    clear hn0
    obtain ⟨q, l, rfl, hq0, hq1, hll, hdd, hown, hb⟩ := hrel
    have HD := Lib.hid hdd
    clear hdd
    have hsz := hb.size
    by_cases hq : 0 < q
    · have HS := Lib.hid (ddI_step hq)
      have HV := Lib.hid (ddB_val hq)
      have hnew : l.length + 1 ≤ 21 := by
        have := congrArg List.length HD.out
        rw [HS.out, List.length_append, List.length_append, List.length_reverse] at this
        simp at this
        omega
      have hmod : 0 ≤ q % 10 ∧ q % 10 ≤ 9 := by omega
      have hdiv : 0 ≤ q / 10 ∧ q / 10 < q := by omega
      go_wp2_with (at_builtin; refine wpList_append1 rfl _ _ 76 rfl w.heap.size 5 rfl i0 (.int .u8 0) 1 Tryz.underlying76 hi hz0 hz1 hz2 rfl _ l.length _ rfl hown rfl rfl (by omega) (by omega) hsz ?_; intro v' w' hown' hb')
      go_roundw
      case rel =>
        refine ⟨q / 10, l ++ [ddB q], rfl, hdiv.1, by omega, by simp; omega, ?_, ?_, hb.trans hb'⟩
        · rw [HD.out, HS.out]
          simp
        · rw [HV.out] at hown'
          rw [List.length_append, List.map_append]
          exact hown'
      case measure => simp [intOf]; omega
    · have HF : Hid (ddI m = l.reverse) := Lib.hid (by rw [HD.out, ddI_zero (by omega)]; rfl)
      obtain ⟨ab, cb, rfl, hsl⟩ := SliceAt.own hown
      rw [List.length_map]
      have HSL := Lib.hid hsl
      clear hsl hown hq0 hq1
      obtain ⟨w1, hw1⟩ : ∃ w1 : World, w1 = wr := ⟨_, rfl⟩
      subst hw1
      go_wp2
      go_loopw [5, 6] (fun o i w2 => ∃ (j : Nat) (ii : Int), i = .int .i64 ii ∧ ii = (j : Int) - 1 ∧ j ≤ l.length ∧ w2.ownsRow w1.heap.size 5 1 o (0 + (l.length - j)) (([] ++ (l.drop j).reverse).map byteV) ∧ Below w1.heap.size w1 w2) (fun _ i _ => (intOf i + 1).toNat)
      case atStart => exact ⟨l.length, _, rfl, rfl, Nat.le_refl _, by rw [show 0 + (l.length - l.length) = 0 from by omega, List.drop_length]; exact World.ownsRow_nil _ _ _ _, Below.refl _ _⟩
      case round =>
        obtain ⟨j, ii, rfl, hij, hj, hown2, hb2⟩ := hrel
        have hsz2 := hb2.size
        cases j with
        | zero =>
          have HE : Hid ([] ++ (l.drop 0).reverse = Lib.itoa (m)) := Lib.hid (by rw [HI.out, HF.out]; rfl)
          rw [HE.out] at hown2
          have kc := run_convert_own (P := Tryz.prog) 76 5 9 Tryz.underlying76 Tryz.underlying5 Tryz.underlying9 hown2
          have hneg : ii < 0 := by omega
          clear hij
          go_wp2
          go_ret
          exact ⟨rfl, below_then hb hb2⟩
        | succ k =>
          obtain rfl : ii = (k : Int) := by omega
          clear hij
          obtain ⟨c, hc0⟩ : ∃ c, l[k]? = some c := ⟨_, List.getElem?_eq_getElem (by omega)⟩
          have hdrop : l.drop k = c :: l.drop (k + 1) := by
            obtain ⟨hk, rfl⟩ := List.getElem?_eq_some_iff.1 hc0
            exact List.drop_eq_getElem_cons hk
          have HDR := Lib.hid hdrop
          clear hdrop
          rcases HSL.out with hnil | ⟨bb, off, rfl, hc⟩
          · exact absurd (show l.length = 0 by rw [List.map_eq_nil_iff.1 hnil]; rfl) (by omega)
          · have hc1 := hc k (.int .u8 c.toNat) (by rw [List.getElem?_map, hc0]; rfl)
            have hcell : wr.cell? ⟨bb, off + k, none⟩ = some (.int .u8 c.toNat) := (hb2.cell (block_of_cell hc1)).trans hc1
            clear hc hc1 hc0
            go_wp2_with (at_builtin; refine wpList_append1 rfl _ _ 76 rfl w1.heap.size 5 rfl i0 (.int .u8 0) 1 Tryz.underlying76 hi hz0 hz1 hz2 rfl _ _ _ rfl hown2 rfl rfl (by omega) (by omega) hsz2 ?_; intro v' w' hown' hb')
            go_roundw
            case rel =>
              refine ⟨k, _, rfl, rfl, by omega, ?_, hb2.trans hb'⟩
              rw [HDR.out, List.reverse_cons, ← List.append_assoc, List.map_append, show 0 + (l.length - k) = 0 + (l.length - (k + 1)) + 1 from by omega]
              exact hown'
            case measure => simp [intOf]

theorem ref_decimal_zero (w : World) :
    Calls Tryz.prog 115 #[.int .i64 0] w fun e w' => e = .returned (.string ⟨(Lib.itoa 0).toArray⟩) ∧ Below w.heap.size w w' := by
  have HI : Hid (Lib.itoa 0 = [48]) := Lib.hid (by unfold Lib.itoa; rw [if_neg (by decide)]; unfold Lib.decDigits; rfl)
  go_enter Tryz.func115, Tryz.ntmps115
  go_wp2
  go_ret
  exact ⟨by rw [HI.out]; rfl, Below.refl _ _⟩

theorem ref_decimal_any (n : Int) (hn : -9223372036854775808 ≤ n ∧ n ≤ 9223372036854775807) (w : World) :
    Calls Tryz.prog 115 #[.int .i64 n] w fun e w' => e = .returned (.string ⟨(Lib.itoa n).toArray⟩) ∧ Below w.heap.size w w' := by
  rcases (by omega : n < 0 ∨ n = 0 ∨ 0 < n) with h | h | h
  · have := ref_decimal_neg (-n) (by omega) w
    rw [Int.neg_neg] at this
    exact this
  · subst h; exact ref_decimal_zero w
  · exact ref_decimal_pos n (by omega) w

end Go.Proofs.YtnecjofgjbfheaaGreatDoor
