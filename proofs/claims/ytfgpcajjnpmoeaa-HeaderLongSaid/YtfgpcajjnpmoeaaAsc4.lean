/- Contracts: lists of texts. -/
import Derived.Lib.ItoaMem
import Derived.Lib.ItoaLen
import Derived.Test.YtfgpcajjnpmoeaaProg
import Derived.Test.YtfgpcajjnpmoeaaShelf
import Derived.Test.YtfgpcajjnpmoeaaKit
import Derived.Test.YtfgpcajjnpmoeaaInfo
import Derived.Test.YtfgpcajjnpmoeaaPlain
namespace Go.Proofs.Ytfgpcajjnpmoeaa
open Go.RowKit Go.Proofs

/-- A text as a value, by the list of its bytes. -/
def strL (l : List UInt8) : Value := .string ⟨l.toArray⟩

def eqLL (a b : List (List UInt8)) : Bool := decide (a = b)

theorem eqLL_yes {a b : List (List UInt8)} (h : a = b) : eqLL a b = true := decide_eq_true h

theorem eqLL_no {a b : List (List UInt8)} (h : a ≠ b) : eqLL a b = false := decide_eq_false h

theorem texts_any (va vb : Value) (a b : List (List UInt8)) (w : World) (ha : SliceAt w va (a.map strL)) (hb : SliceAt w vb (b.map strL)) (hla : a.length ≤ 1073741824) (hlb : b.length ≤ 1073741824) :
    Calls Try.prog 15 #[va, vb] w fun e w' => e = .returned (.bool (eqLL a b)) ∧ ∃ m, w' = w.drewN m := by
  by_cases hl : a.length = b.length
  · by_cases hne : a = []
    · have hbe : b = [] := List.eq_nil_of_length_eq_zero (by rw [← hl, hne]; rfl)
      subst hne hbe
      obtain ⟨aa, ca, rfl⟩ := ha.empty
      obtain ⟨ab, cb, rfl⟩ := hb.empty
      go_enter Try.func15, Try.ntmps15
      go_wp2
      refine wp_loop_rounds 1 ?_
      rw [rounds_succ]
      go_wp2
      go_ret
      exact ⟨rfl, 0, rfl⟩
    · have hbne : b ≠ [] := fun e => hne (List.eq_nil_of_length_eq_zero (by rw [hl, e]; rfl))
      obtain ⟨ba, oa, ca, rfl, hca⟩ := ha.at (by simpa using hne)
      obtain ⟨bb, ob, cb, rfl, hcb⟩ := hb.at (by simpa using hbne)
      rw [List.length_map, List.length_map]
      have hl0 : ((a.length : Int) != (b.length : Int)) = false := by rw [bne_eq_false_iff_eq]; omega
      have HA := Lib.hid hca
      have HB := Lib.hid hcb
      have HL := Lib.hid hl
      clear hca hcb ha hb hl hne hbne
      go_enter Try.func15, Try.ntmps15
      go_wp2
      go_loopw [5] (fun i wr => ∃ k : Nat, k ≤ a.length ∧ i = .int .i64 k ∧ a.take k = b.take k ∧ ∃ m, wr = w.drewN m) (fun i _ => a.length - (intOf i).toNat)
      case atStart => exact ⟨0, Nat.zero_le _, rfl, rfl, 0, rfl⟩
      case round =>
        clear hl0
        obtain ⟨k, hk, rfl, he, hm⟩ := hrel
        have hcell : ∀ p, wr.cell? p = w.cell? p := by obtain ⟨m, rfl⟩ := hm; intro p; rfl
        have HCELL := Lib.hid hcell
        have HM := Lib.hid hm
        have HE := Lib.hid he
        clear hcell hm he
        by_cases hlt : k < a.length
        · have hltb : k < b.length := by have := HL.out; omega
          obtain ⟨x, hx⟩ : ∃ x, a[k]? = some x := ⟨_, List.getElem?_eq_getElem hlt⟩
          obtain ⟨y, hy⟩ : ∃ y, b[k]? = some y := ⟨_, List.getElem?_eq_getElem hltb⟩
          have hcx : wr.cell? ⟨ba, oa + k, none⟩ = some (.string ⟨x.toArray⟩) := (HCELL.out _).trans (HA.out k (strL x) (by rw [List.getElem?_map, hx]; rfl))
          have hcy : wr.cell? ⟨bb, ob + k, none⟩ = some (.string ⟨y.toArray⟩) := (HCELL.out _).trans (HB.out k (strL y) (by rw [List.getElem?_map, hy]; rfl))
          have hx1 : (k : Int) < (a.length : Int) := by omega
          have hx2 : (k : Int) < (b.length : Int) := by omega
          by_cases hq : x = y
          · have hq0 : (x == y) = true := by simp [hq]
            have HN : Hid (a.take (k + 1) = b.take (k + 1)) := Lib.hid (by rw [take_succ_of hx, take_succ_of hy, HE.out, hq])
            clear hq hx hy
            go_wp2_with fail
            go_quiet (fail)
            go_wp2
            go_roundw
            case rel => exact ⟨k + 1, by omega, by go_num, HN.out, drewN_more HM.out _⟩
            case measure => simp [intOf]; omega
          · have hq0 : (x == y) = false := by simp [hq]
            have HF : Hid (eqLL a b = false) := Lib.hid (eqLL_no fun e => hq (by rw [e, hy] at hx; exact (Option.some.inj hx).symm))
            clear hq hx hy
            go_wp2_with fail
            go_quiet (fail)
            go_wp2
            go_ret
            exact ⟨ret_bool HF.out.symm, drewN_more HM.out _⟩
        · have HF : Hid (eqLL a b = true) := Lib.hid (eqLL_yes (by
            have h1 := HE.out
            have := HL.out
            rw [List.take_of_length_le (by omega), List.take_of_length_le (by omega)] at h1
            exact h1))
          go_wp2
          go_ret
          exact ⟨ret_bool HF.out.symm, HM.out⟩
  · obtain ⟨aa, ca, rfl⟩ := ha.len
    obtain ⟨ab, cb, rfl⟩ := hb.len
    have hl0 : ((a.length : Int) != (b.length : Int)) = true := by rw [bne_iff_ne]; omega
    have HF : Hid (eqLL a b = false) := Lib.hid (eqLL_no fun e => hl (by rw [e]))
    rw [List.length_map, List.length_map]
    clear hl
    go_enter Try.func15, Try.ntmps15
    go_wp2
    go_ret
    exact ⟨ret_bool HF.out.symm, 0, rfl⟩

def splitGo (sep : UInt8) (cur : List UInt8) : List UInt8 → List (List UInt8)
  | [] => [cur]
  | c :: r => if c = sep then cur :: splitGo sep [] r else splitGo sep (cur ++ [c]) r

def splitL (l : List UInt8) (sep : UInt8) : List (List UInt8) := splitGo sep [] l

theorem splitGo_pre (sep : UInt8) : ∀ (p cur r : List UInt8), sep ∉ p → splitGo sep cur (p ++ sep :: r) = (cur ++ p) :: splitGo sep [] r
  | [], cur, r, _ => by simp [splitGo]
  | c :: p, cur, r, h => by
    have h1 : c ≠ sep := fun e => h (by simp [e])
    have h2 : sep ∉ p := fun e => h (by simp [e])
    rw [List.cons_append, splitGo, if_neg h1, splitGo_pre sep p _ r h2]
    simp

theorem splitGo_none (sep : UInt8) : ∀ (p cur : List UInt8), sep ∉ p → splitGo sep cur p = [cur ++ p]
  | [], cur, _ => by simp [splitGo]
  | c :: p, cur, h => by
    have h1 : c ≠ sep := fun e => h (by simp [e])
    have h2 : sep ∉ p := fun e => h (by simp [e])
    rw [splitGo, if_neg h1, splitGo_none sep p _ h2]
    simp

theorem indexByte_cases (l : List UInt8) (c : UInt8) : (Lib.indexByte l c = -1 ∧ c ∉ l) ∨ ∃ i : Nat, Lib.indexByte l c = i ∧ i < l.length ∧ c ∉ l.take i ∧ l = l.take i ++ c :: l.drop (i + 1) := by
  induction l with
  | nil => left; simp [Lib.indexByte]
  | cons b l ih =>
    simp only [Lib.indexByte]
    by_cases h1 : b == c
    · right
      rw [if_pos h1]
      have : b = c := by simpa using h1
      exact ⟨0, rfl, by simp, by simp, by simp [this]⟩
    · rw [if_neg h1]
      have h1' : b ≠ c := by simpa using h1
      rcases ih with ⟨h2, h3⟩ | ⟨i, h2, h3, h4, h5⟩
      · left
        rw [h2]
        simp [h3, Ne.symm h1']
      · right
        rw [h2]
        have h6 : ((i : Int) == -1) = false := beq_eq_false_iff_ne.2 (by omega)
        rw [h6]
        refine ⟨i + 1, by simp, by simp; omega, ?_, ?_⟩
        · rw [List.take_succ_cons]
          simp [h4, Ne.symm h1']
        · rw [List.take_succ_cons, List.drop_succ_cons, List.cons_append, ← h5]

theorem strL_data (t : ByteArray) : strL t.data.toList = .string t := by cases t; rfl

theorem strL_of {t : ByteArray} {l : List UInt8} (h : t.data.toList = l) : strL l = .string t := by subst h; exact strL_data t

theorem strL_take (t : ByteArray) (i : Nat) : strL (t.data.toList.take i) = .string (t.extract 0 i) := strL_of (by rw [extract_list, List.drop_zero])

theorem split_any (s : ByteArray) (sep : UInt8) (hs : s.size ≤ 1073741824) (w : World) :
    Calls Try.prog 56 #[.string s, .int .u8 sep.toNat] w fun e w' => (∃ v, e = .returned v ∧ w'.ownsRow w.heap.size 9 1 v (splitL s.data.toList sep).length ((splitL s.data.toList sep).map strL)) ∧ Below w.heap.size w w' := by
  obtain ⟨i0, hi, hz0, hz1, hz2⟩ := info_parts Try.infoStr
  go_enter Try.func56, Try.ntmps56
  go_wp2
  go_loopw [0, 4] (fun r v wr => ∃ (t : ByteArray) (ps : List (List UInt8)), r = .string t ∧ ps.length + t.size ≤ s.size ∧ ps ++ splitL t.data.toList sep = splitL s.data.toList sep ∧ wr.ownsRow w.heap.size 9 1 v ps.length (ps.map strL) ∧ Below w.heap.size w wr) (fun r _ _ => strSize r)
  case atStart => exact ⟨s, [], rfl, by simp, rfl, World.ownsRow_nil _ _ _ _, Below.refl _ _⟩
  case round =>
    obtain ⟨t, ps, rfl, hle, hps, hown, hb⟩ := hrel
    have HP := Lib.hid hps
    clear hps
    obtain ⟨wo, hwo⟩ : ∃ wo : World, wo = wr := ⟨_, rfl⟩
    subst hwo
    have hsz := hb.size
    have hbyte : sep.toNat.toUInt8 = sep := by simp
    have HBY := Lib.hid hbyte
    clear hbyte
    rcases indexByte_cases t.data.toList sep with ⟨hx, hno⟩ | ⟨i, hx, hil, hno, hcut⟩
    · have HX := Lib.hid hx
      have HN := Lib.hid (splitGo_none sep t.data.toList [] hno)
      clear hx hno
      go_wp2_with fail
      refine (Try.strings_IndexByte t sep.toNat _).mono ?_
      rw [show ((sep.toNat : Int).toNat).toUInt8 = sep from HBY.out, HX.out]
      rintro e w' ⟨rfl, rfl⟩
      go_wp2_with (at_builtin; refine wpList_append1 rfl _ _ 23 rfl w.heap.size 9 rfl i0 (.string ByteArray.empty) 16 Try.underlying23 hi hz0 hz1 hz2 rfl _ ps.length _ rfl hown rfl rfl (by omega) (by omega) hsz ?_; intro v' w' hown' hb')
      go_ret
      have e : splitL s.data.toList sep = ps ++ [t.data.toList] := by
        rw [← HP.out]
        unfold splitL
        rw [HN.out]
        rfl
      refine ⟨⟨_, rfl, ?_⟩, hb.trans hb'⟩
      rw [e, List.length_append, List.map_append]
      show w'.ownsRow _ _ _ _ _ (_ ++ [strL t.data.toList])
      rw [strL_data]
      exact hown'
    · have HX := Lib.hid hx
      have HN := Lib.hid hno
      have HC := Lib.hid hcut
      rw [size_data] at hil
      clear hx hno hcut
      go_wp2_with fail
      refine (Try.strings_IndexByte t sep.toNat _).mono ?_
      rw [show ((sep.toNat : Int).toNat).toUInt8 = sep from HBY.out, HX.out]
      rintro e w' ⟨rfl, rfl⟩
      go_wp2_with (at_builtin; refine wpList_append1 rfl _ _ 23 rfl w.heap.size 9 rfl i0 (.string ByteArray.empty) 16 Try.underlying23 hi hz0 hz1 hz2 rfl _ ps.length _ rfl hown rfl rfl (by omega) (by omega) hsz ?_; intro v' w' hown' hb')
      go_roundw
      case rel =>
        refine ⟨_, ps ++ [t.data.toList.take i], rfl, ?_, ?_, ?_, hb.trans hb'⟩
        · rw [List.length_append, ByteArray.size_extract]
          simp
          omega
        · rw [← HP.out, extract_tail, List.append_assoc]
          congr 1
          conv => rhs; rw [HC.out]
          unfold splitL
          rw [splitGo_pre sep _ [] _ HN.out]
          rfl
        · rw [List.length_append, List.map_append]
          show w'.ownsRow _ _ _ _ _ (_ ++ [strL (t.data.toList.take i)])
          rw [show strL (t.data.toList.take i) = .string (t.extract 0 i) from strL_take t i]
          exact hown'
      case measure => simp [strSize]; omega

/-- The bytes from st on, ahead of k. -/
def cutW (s : ByteArray) (st k : Nat) : List UInt8 := (s.data.toList.take k).drop st

theorem cutW_self (s : ByteArray) (k : Nat) : cutW s k k = [] := by
  unfold cutW
  exact List.drop_eq_nil_of_le (by simp; omega)

theorem cutW_snoc (s : ByteArray) (st k : Nat) (h : k < s.size) (hst : st ≤ k) : cutW s st (k + 1) = cutW s st k ++ [s[k]] := by
  unfold cutW
  rw [take_snoc s k h, List.drop_append_of_le_length (by simp; omega)]

theorem cutW_str (s : ByteArray) (st k : Nat) : strL (cutW s st k) = .string (s.extract st k) := strL_of (extract_list s st k)

theorem drop_at (s : ByteArray) (k : Nat) (h : k < s.size) : s.data.toList.drop k = s[k] :: s.data.toList.drop (k + 1) :=
  List.drop_eq_getElem_cons (by rw [size_data]; exact h)

theorem ref_split_any (s : ByteArray) (sep : UInt8) (hs : s.size ≤ 1073741824) (w : World) :
    Calls Try.prog 33 #[.string s, .int .u8 sep.toNat] w fun e w' => (∃ v, e = .returned v ∧ w'.ownsRow w.heap.size 9 1 v (splitL s.data.toList sep).length ((splitL s.data.toList sep).map strL)) ∧ Below w.heap.size w w' := by
  obtain ⟨i0, hi, hz0, hz1, hz2⟩ := info_parts Try.infoStr
  go_enter Try.func33, Try.ntmps33
  go_wp2
  go_loopw [5, 6, 7] (fun v f i wr => ∃ (k st : Nat) (ps : List (List UInt8)), k ≤ s.size ∧ i = .int .i64 k ∧ st ≤ k ∧ f = .int .i64 st ∧ ps.length ≤ k ∧ ps ++ splitGo sep (cutW s st k) (s.data.toList.drop k) = splitL s.data.toList sep ∧ wr.ownsRow w.heap.size 9 1 v ps.length (ps.map strL) ∧ Below w.heap.size w wr) (fun _ _ i _ => s.size - (intOf i).toNat)
  case atStart => exact ⟨0, 0, [], Nat.zero_le _, rfl, Nat.le_refl _, rfl, by simp, by rw [cutW_self]; rfl, World.ownsRow_nil _ _ _ _, Below.refl _ _⟩
  case round =>
    obtain ⟨k, st, ps, hk, rfl, hst, rfl, hle, hps, hown, hb⟩ := hrel
    have HP := Lib.hid hps
    clear hps
    have hsz := hb.size
    by_cases hlt : k < s.size
    · have HD := Lib.hid (drop_at s k hlt)
      have HC := Lib.hid (cutW_snoc s st k hlt hst)
      by_cases hq : s[k] = sep
      · have hq0 : ((s[k].toNat : Int) == (sep.toNat : Int)) = true := by rw [hq]; exact beq_iff_eq.2 rfl
        have HQ := Lib.hid hq
        clear hq
        go_wp2_with (at_builtin; refine wpList_append1 rfl _ _ 23 rfl w.heap.size 9 rfl i0 (.string ByteArray.empty) 16 Try.underlying23 hi hz0 hz1 hz2 rfl _ ps.length _ rfl hown rfl rfl (by omega) (by omega) hsz ?_; intro v' w' hown' hb')
        go_roundw
        case rel =>
          refine ⟨k + 1, k + 1, ps ++ [cutW s st k], by omega, by go_num, Nat.le_refl _, by go_num, by simp; omega, ?_, ?_, hb.trans hb'⟩
          · rw [← HP.out, HD.out, cutW_self, List.append_assoc]
            congr 1
            rw [splitGo, if_pos HQ.out]
            rfl
          · rw [List.length_append, List.map_append]
            show w'.ownsRow _ _ _ _ _ (_ ++ [strL (cutW s st k)])
            rw [cutW_str]
            exact hown'
        case measure => simp [intOf]; omega
      · have hq0 : ((s[k].toNat : Int) == (sep.toNat : Int)) = false := beq_eq_false_iff_ne.2 fun e => hq (UInt8.toNat_inj.1 (by omega))
        have HQ := Lib.hid hq
        clear hq
        go_wp2
        go_roundw
        case rel =>
          refine ⟨k + 1, st, ps, by omega, by go_num, by omega, rfl, by omega, ?_, hown, hb⟩
          rw [← HP.out, HD.out, HC.out]
          congr 1
          conv => rhs; rw [splitGo, if_neg HQ.out]
        case measure => simp [intOf]; omega
    · go_wp2_with (at_builtin; refine wpList_append1 rfl _ _ 23 rfl w.heap.size 9 rfl i0 (.string ByteArray.empty) 16 Try.underlying23 hi hz0 hz1 hz2 rfl _ ps.length _ rfl hown rfl rfl (by omega) (by omega) hsz ?_; intro v' w' hown' hb')
      go_ret
      have e : splitL s.data.toList sep = ps ++ [s.data.toList.drop st] := by
        rw [← HP.out, List.drop_eq_nil_of_le (by rw [size_data]; omega)]
        unfold cutW
        rw [List.take_of_length_le (by rw [size_data]; omega)]
        rfl
      refine ⟨⟨_, rfl, ?_⟩, hb.trans hb'⟩
      rw [e, List.length_append, List.map_append]
      show w'.ownsRow _ _ _ _ _ (_ ++ [strL (s.data.toList.drop st)])
      rw [show strL (s.data.toList.drop st) = .string (s.extract st s.size) from strL_of (extract_tail s st)]
      exact hown'

theorem splitGo_len (sep : UInt8) : ∀ (l cur : List UInt8), (splitGo sep cur l).length ≤ l.length + 1
  | [], _ => by simp [splitGo]
  | c :: r, cur => by
    rw [splitGo]
    split
    · have := splitGo_len sep r []
      simp
      omega
    · have := splitGo_len sep r (cur ++ [c])
      simp
      omega

theorem splitL_len (l : List UInt8) (sep : UInt8) : (splitL l sep).length ≤ l.length + 1 := splitGo_len sep l []

/-- Is the text among those? -/
def hasS (zs : List ByteArray) (x : ByteArray) : Bool := Lib.containsS zs x

theorem hasS_iff (zs : List ByteArray) (x : ByteArray) : hasS zs x = true ↔ x ∈ zs := Lib.containsS_iff zs x

theorem hasS_nil (x : ByteArray) : hasS [] x = false := by
  cases h : hasS [] x
  · rfl
  · rw [hasS_iff] at h; cases h

theorem strs_getD {w : World} {b off : Nat} {zs : List ByteArray} (hc : ∀ (j : Nat) (x : Value), (zs.map strV)[j]? = some x → w.cell? ⟨b, off + j, none⟩ = some x) :
    ∀ j, j < zs.length → w.cell? ⟨b, off + j, none⟩ = some (.string (zs.getD j ByteArray.empty)) := by
  intro j hj
  refine hc j _ ?_
  rw [List.getElem?_map, List.getElem?_eq_getElem hj]
  simp [strV, List.getD, List.getElem?_eq_getElem hj]

theorem contains_str_any (v : Value) (zs : List ByteArray) (x : ByteArray) (w : World) (hl : zs.length ≤ 1073741824) (hv : SliceAt w v (zs.map strV)) :
    Calls Try.prog 79 #[v, .string x] w fun e w' => e = .returned (.bool (hasS zs x)) ∧ w' = w := by
  by_cases hne : zs = []
  · subst hne
    obtain ⟨a, c, rfl⟩ := hv.empty
    rw [hasS_nil]
    exact Try.slices_Contains_string_empty a c x w
  · obtain ⟨b, off, c, rfl, hc⟩ := hv.at (by simpa using hne)
    have h := Try.slices_Contains_string b off zs.length c zs x w (Nat.le_refl _) (by omega) (strs_getD hc)
    rw [List.take_of_length_le (Nat.le_refl _)] at h
    rw [List.length_map]
    exact h

theorem oneOf_str_any (v : Value) (zs : List ByteArray) (x : ByteArray) (w : World) (hl : zs.length ≤ 1073741824) (hv : SliceAt w v (zs.map strV)) :
    Calls Try.prog 71 #[.string x, v] w fun e w' => e = .returned (.bool (hasS zs x)) ∧ w' = w := by
  go_enter Try.func71, Try.ntmps71
  go_wp2_with fail
  refine (contains_str_any v zs x w hl hv).mono ?_
  rintro e w' ⟨rfl, rfl⟩
  go_wp2
  go_ret
  exact ⟨rfl, rfl⟩

theorem any_any (v : Value) (zs : List ByteArray) (x : ByteArray) (w : World) (hl : zs.length ≤ 1073741824) (hv : SliceAt w v (zs.map strV)) :
    Calls Try.prog 62 #[.string x, v] w fun e w' => e = .returned (.bool (hasS zs x)) ∧ w' = w := by
  go_enter Try.func62, Try.ntmps62
  go_wp2_with fail
  refine (oneOf_str_any v zs x w hl hv).mono ?_
  rintro e w' ⟨rfl, rfl⟩
  go_wp2
  go_ret
  exact ⟨rfl, rfl⟩

theorem toList_inj {a b : ByteArray} : (a.toList = b.toList) ↔ a = b := by
  rw [ByteArray.toList_eq, ByteArray.toList_eq]
  constructor
  · intro h
    have := mk_list a h
    rw [this]
  · intro h; rw [h]

/-- The sum of lengths, as far as it goes: if it is at most the bound, so are the list's length and each text's. -/
theorem total_any (v : Value) (zs : List ByteArray) (m : Int) (w : World) (hm : 0 ≤ m ∧ m ≤ 1073741824) (hl : zs.length ≤ 281474976710656) (hz : ∀ z ∈ zs, z.size ≤ 281474976710656) (hv : SliceAt w v (zs.map strV)) :
    Calls Try.prog 11 #[v, .int .i64 m] w fun e w' => (∃ r : Int, e = .returned (.int .i64 r) ∧ (zs.length : Int) ≤ r ∧ r ≤ 1125899906842624) ∧ w' = w := by
  by_cases hne : zs = []
  · subst hne
    obtain ⟨a, cp, rfl⟩ := hv.empty
    go_enter Try.func11, Try.ntmps11
    go_wp2
    refine wp_loop_rounds 1 ?_
    rw [rounds_succ]
    go_wp2
    go_ret
    exact ⟨⟨0, rfl, by simp, by decide⟩, rfl⟩
  · obtain ⟨b, off, cp, rfl, hc⟩ := hv.at (by simpa using hne)
    rw [List.length_map]
    have HC := Lib.hid hc
    have HZ := Lib.hid hz
    clear hc hv hz
    go_enter Try.func11, Try.ntmps11
    go_wp2
    go_loop [5, 6] (fun n i => ∃ (k : Nat) (r : Int), k ≤ zs.length ∧ i = .int .i64 k ∧ n = .int .i64 r ∧ (zs.length : Int) ≤ r ∧ r ≤ 1125899906842624) (fun _ i => zs.length - (intOf i).toNat)
    case atStart => exact ⟨0, zs.length, Nat.zero_le _, rfl, rfl, Int.le_refl _, by omega⟩
    case round =>
      obtain ⟨k, r, hk, rfl, rfl, hr1, hr2⟩ := hrel
      by_cases hlt : k < zs.length
      · obtain ⟨d, hd⟩ : ∃ d, zs[k]? = some d := ⟨_, List.getElem?_eq_getElem hlt⟩
        have hcell := HC.out k (.string d) (by rw [List.getElem?_map, hd]; rfl)
        have hds := HZ.out d (List.mem_of_getElem? hd)
        clear hd
        by_cases hrm : r ≤ m
        · go_wp2
          go_round
          case rel => exact ⟨k + 1, r + d.size, by omega, by go_num, by go_num, by omega, by omega⟩
          case measure => simp [intOf]; omega
        · go_wp2
          go_ret
          exact ⟨⟨r, rfl, hr1, hr2⟩, rfl⟩
      · go_wp2
        go_ret
        exact ⟨⟨r, rfl, hr1, hr2⟩, rfl⟩

end Go.Proofs.Ytfgpcajjnpmoeaa
