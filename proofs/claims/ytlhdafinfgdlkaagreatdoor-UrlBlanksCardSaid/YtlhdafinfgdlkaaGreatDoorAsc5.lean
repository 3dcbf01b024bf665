/- Contracts: Split and Blanks, and their references. -/
import Derived.Test.YtlhdafinfgdlkaaGreatDoorProg
import Derived.Test.YtlhdafinfgdlkaaGreatDoorShelf
import Derived.Test.YtlhdafinfgdlkaaGreatDoorKit
import Derived.Test.YtlhdafinfgdlkaaGreatDoorInfo
import Derived.Test.YtlhdafinfgdlkaaGreatDoorPlain
import Derived.Test.YtlhdafinfgdlkaaGreatDoorAsc4
namespace Go.Proofs.YtlhdafinfgdlkaaGreatDoor
open Go.RowKit Go.Proofs
set_option maxRecDepth 100000

def splitGo (sep : UInt8) (cur : List UInt8) : List UInt8 → List (List UInt8)
  | [] => [cur]
  | c :: r => if c = sep then cur :: splitGo sep [] r else splitGo sep (cur ++ [c]) r

def splitL (l : List UInt8) (sep : UInt8) : List (List UInt8) := splitGo sep [] l

theorem splitGo_pre (sep : UInt8) : ∀ (p cur r : List UInt8), sep ∉ p → splitGo sep cur (p ++ sep :: r) = (cur ++ p) :: splitGo sep [] r
  | [], cur, r, _ => by simp [splitGo]
  | c :: p, cur, r, h => by
    have h1 : c ≠ sep := fun e => h (by simp [e])
    have h2 : sep ∉ p := fun e => h (by simp [e])
    rw [List.cons_append, splitGo, if_neg h1, splitGo_pre sep p _ r h2]
    simp

theorem splitGo_none (sep : UInt8) : ∀ (p cur : List UInt8), sep ∉ p → splitGo sep cur p = [cur ++ p]
  | [], cur, _ => by simp [splitGo]
  | c :: p, cur, h => by
    have h1 : c ≠ sep := fun e => h (by simp [e])
    have h2 : sep ∉ p := fun e => h (by simp [e])
    rw [splitGo, if_neg h1, splitGo_none sep p _ h2]
    simp

theorem indexByte_cases (l : List UInt8) (c : UInt8) : (Lib.indexByte l c = -1 ∧ c ∉ l) ∨ ∃ i : Nat, Lib.indexByte l c = i ∧ i < l.length ∧ c ∉ l.take i ∧ l = l.take i ++ c :: l.drop (i + 1) := by
  induction l with
  | nil => left; simp [Lib.indexByte]
  | cons b l ih =>
    simp only [Lib.indexByte]
    by_cases h1 : b == c
    · right
      rw [if_pos h1]
      have : b = c := by simpa using h1
      exact ⟨0, rfl, by simp, by simp, by simp [this]⟩
    · rw [if_neg h1]
      have h1' : b ≠ c := by simpa using h1
      rcases ih with ⟨h2, h3⟩ | ⟨i, h2, h3, h4, h5⟩
      · left
        rw [h2]
        simp [h3, Ne.symm h1']
      · right
        rw [h2]
        have h6 : ((i : Int) == -1) = false := beq_eq_false_iff_ne.2 (by omega)
        rw [h6]
        refine ⟨i + 1, by simp, by simp; omega, ?_, ?_⟩
        · rw [List.take_succ_cons]
          simp [h4, Ne.symm h1']
        · rw [List.take_succ_cons, List.drop_succ_cons, List.cons_append, ← h5]

theorem strL_data (t : ByteArray) : strL t.data.toList = .string t := by cases t; rfl

theorem strL_of {t : ByteArray} {l : List UInt8} (h : t.data.toList = l) : strL l = .string t := by subst h; exact strL_data t

theorem strL_take (t : ByteArray) (i : Nat) : strL (t.data.toList.take i) = .string (t.extract 0 i) := strL_of (by rw [extract_list, List.drop_zero])

theorem split_any (s : ByteArray) (sep : UInt8) (hs : s.size ≤ 1073741824) (w : World) :
    Calls Tryz.prog 59 #[.string s, .int .u8 sep.toNat] w fun e w' => (∃ v, e = .returned v ∧ w'.ownsRow w.heap.size 9 1 v (splitL s.data.toList sep).length ((splitL s.data.toList sep).map strL)) ∧ Below w.heap.size w w' := by
  obtain ⟨i0, hi, hz0, hz1, hz2⟩ := info_parts Tryz.infoStr
  go_enter Tryz.func59, Tryz.ntmps59
  go_wp2
  go_loopw [0, 4] (fun r v wr => ∃ (t : ByteArray) (ps : List (List UInt8)), r = .string t ∧ ps.length + t.size ≤ s.size ∧ ps ++ splitL t.data.toList sep = splitL s.data.toList sep ∧ wr.ownsRow w.heap.size 9 1 v ps.length (ps.map strL) ∧ Below w.heap.size w wr) (fun r _ _ => strSize r)
  case atStart => exact ⟨s, [], rfl, by simp, rfl, World.ownsRow_nil _ _ _ _, Below.refl _ _⟩
  case round =>
    obtain ⟨t, ps, rfl, hle, hps, hown, hb⟩ := hrel
    have HP := Lib.hid hps
    clear hps
    obtain ⟨wo, hwo⟩ : ∃ wo : World, wo = wr := ⟨_, rfl⟩
    subst hwo
    have hsz := hb.size
    have hbyte : sep.toNat.toUInt8 = sep := by simp
    have HBY := Lib.hid hbyte
    clear hbyte
    rcases indexByte_cases t.data.toList sep with ⟨hx, hno⟩ | ⟨i, hx, hil, hno, hcut⟩
    · have HX := Lib.hid hx
      have HN := Lib.hid (splitGo_none sep t.data.toList [] hno)
      clear hx hno
      go_wp2_with fail
      refine (Tryz.strings_IndexByte t sep.toNat _).mono ?_
      rw [show ((sep.toNat : Int).toNat).toUInt8 = sep from HBY.out, HX.out]
      rintro e w' ⟨rfl, rfl⟩
      go_wp2_with (at_builtin; refine wpList_append1 rfl _ _ 39 rfl w.heap.size 9 rfl i0 (.string ByteArray.empty) 16 Tryz.underlying39 hi hz0 hz1 hz2 rfl _ ps.length _ rfl hown rfl rfl (by omega) (by omega) hsz ?_; intro v' w' hown' hb')
      go_ret
      have e : splitL s.data.toList sep = ps ++ [t.data.toList] := by
        rw [← HP.out]
        unfold splitL
        rw [HN.out]
        rfl
      refine ⟨⟨_, rfl, ?_⟩, hb.trans hb'⟩
      rw [e, List.length_append, List.map_append]
      show w'.ownsRow _ _ _ _ _ (_ ++ [strL t.data.toList])
      rw [strL_data]
      exact hown'
    · have HX := Lib.hid hx
      have HN := Lib.hid hno
      have HC := Lib.hid hcut
      rw [size_data] at hil
      clear hx hno hcut
      go_wp2_with fail
      refine (Tryz.strings_IndexByte t sep.toNat _).mono ?_
      rw [show ((sep.toNat : Int).toNat).toUInt8 = sep from HBY.out, HX.out]
      rintro e w' ⟨rfl, rfl⟩
      go_wp2_with (at_builtin; refine wpList_append1 rfl _ _ 39 rfl w.heap.size 9 rfl i0 (.string ByteArray.empty) 16 Tryz.underlying39 hi hz0 hz1 hz2 rfl _ ps.length _ rfl hown rfl rfl (by omega) (by omega) hsz ?_; intro v' w' hown' hb')
      go_roundw
      case rel =>
        refine ⟨_, ps ++ [t.data.toList.take i], rfl, ?_, ?_, ?_, hb.trans hb'⟩
        · rw [List.length_append, ByteArray.size_extract]
          simp
          omega
        · rw [← HP.out, extract_tail, List.append_assoc]
          congr 1
          conv => rhs; rw [HC.out]
          unfold splitL
          rw [splitGo_pre sep _ [] _ HN.out]
          rfl
        · rw [List.length_append, List.map_append]
          show w'.ownsRow _ _ _ _ _ (_ ++ [strL (t.data.toList.take i)])
          rw [show strL (t.data.toList.take i) = .string (t.extract 0 i) from strL_take t i]
          exact hown'
      case measure => simp [strSize]; omega

/-- The bytes from st on, ahead of k. -/
def cutW (s : ByteArray) (st k : Nat) : List UInt8 := (s.data.toList.take k).drop st

theorem cutW_self (s : ByteArray) (k : Nat) : cutW s k k = [] := by
  unfold cutW
  exact List.drop_eq_nil_of_le (by simp; omega)

theorem cutW_snoc (s : ByteArray) (st k : Nat) (h : k < s.size) (hst : st ≤ k) : cutW s st (k + 1) = cutW s st k ++ [s[k]] := by
  unfold cutW
  rw [take_snoc s k h, List.drop_append_of_le_length (by simp; omega)]

theorem cutW_str (s : ByteArray) (st k : Nat) : strL (cutW s st k) = .string (s.extract st k) := strL_of (extract_list s st k)

theorem drop_at (s : ByteArray) (k : Nat) (h : k < s.size) : s.data.toList.drop k = s[k] :: s.data.toList.drop (k + 1) :=
  List.drop_eq_getElem_cons (by rw [size_data]; exact h)

theorem ref_split_any (s : ByteArray) (sep : UInt8) (hs : s.size ≤ 1073741824) (w : World) :
    Calls Tryz.prog 150 #[.string s, .int .u8 sep.toNat] w fun e w' => (∃ v, e = .returned v ∧ w'.ownsRow w.heap.size 9 1 v (splitL s.data.toList sep).length ((splitL s.data.toList sep).map strL)) ∧ Below w.heap.size w w' := by
  obtain ⟨i0, hi, hz0, hz1, hz2⟩ := info_parts Tryz.infoStr
  go_enter Tryz.func150, Tryz.ntmps150
  go_wp2
  go_loopw [5, 6, 7] (fun v f i wr => ∃ (k st : Nat) (ps : List (List UInt8)), k ≤ s.size ∧ i = .int .i64 k ∧ st ≤ k ∧ f = .int .i64 st ∧ ps.length ≤ k ∧ ps ++ splitGo sep (cutW s st k) (s.data.toList.drop k) = splitL s.data.toList sep ∧ wr.ownsRow w.heap.size 9 1 v ps.length (ps.map strL) ∧ Below w.heap.size w wr) (fun _ _ i _ => s.size - (intOf i).toNat)
  case atStart => exact ⟨0, 0, [], Nat.zero_le _, rfl, Nat.le_refl _, rfl, by simp, by rw [cutW_self]; rfl, World.ownsRow_nil _ _ _ _, Below.refl _ _⟩
  case round =>
    obtain ⟨k, st, ps, hk, rfl, hst, rfl, hle, hps, hown, hb⟩ := hrel
    have HP := Lib.hid hps
    clear hps
    have hsz := hb.size
    by_cases hlt : k < s.size
    · have HD := Lib.hid (drop_at s k hlt)
      have HC := Lib.hid (cutW_snoc s st k hlt hst)
      by_cases hq : s[k] = sep
      · have hq0 : ((s[k].toNat : Int) == (sep.toNat : Int)) = true := by rw [hq]; exact beq_iff_eq.2 rfl
        have HQ := Lib.hid hq
        clear hq
        go_wp2_with (at_builtin; refine wpList_append1 rfl _ _ 39 rfl w.heap.size 9 rfl i0 (.string ByteArray.empty) 16 Tryz.underlying39 hi hz0 hz1 hz2 rfl _ ps.length _ rfl hown rfl rfl (by omega) (by omega) hsz ?_; intro v' w' hown' hb')
        go_roundw
        case rel =>
          refine ⟨k + 1, k + 1, ps ++ [cutW s st k], by omega, by go_num, Nat.le_refl _, by go_num, by simp; omega, ?_, ?_, hb.trans hb'⟩
          · rw [← HP.out, HD.out, cutW_self, List.append_assoc]
            congr 1
            rw [splitGo, if_pos HQ.out]
            rfl
          · rw [List.length_append, List.map_append]
            show w'.ownsRow _ _ _ _ _ (_ ++ [strL (cutW s st k)])
            rw [cutW_str]
            exact hown'
        case measure => simp [intOf]; omega
      · have hq0 : ((s[k].toNat : Int) == (sep.toNat : Int)) = false := beq_eq_false_iff_ne.2 fun e => hq (UInt8.toNat_inj.1 (by omega))
        have HQ := Lib.hid hq
        clear hq
        go_wp2
        go_roundw
        case rel =>
          refine ⟨k + 1, st, ps, by omega, by go_num, by omega, rfl, by omega, ?_, hown, hb⟩
          rw [← HP.out, HD.out, HC.out]
          congr 1
          conv => rhs; rw [splitGo, if_neg HQ.out]
        case measure => simp [intOf]; omega
    · go_wp2_with (at_builtin; refine wpList_append1 rfl _ _ 39 rfl w.heap.size 9 rfl i0 (.string ByteArray.empty) 16 Tryz.underlying39 hi hz0 hz1 hz2 rfl _ ps.length _ rfl hown rfl rfl (by omega) (by omega) hsz ?_; intro v' w' hown' hb')
      go_ret
      have e : splitL s.data.toList sep = ps ++ [s.data.toList.drop st] := by
        rw [← HP.out, List.drop_eq_nil_of_le (by rw [size_data]; omega)]
        unfold cutW
        rw [List.take_of_length_le (by rw [size_data]; omega)]
        rfl
      refine ⟨⟨_, rfl, ?_⟩, hb.trans hb'⟩
      rw [e, List.length_append, List.map_append]
      show w'.ownsRow _ _ _ _ _ (_ ++ [strL (s.data.toList.drop st)])
      rw [show strL (s.data.toList.drop st) = .string (s.extract st s.size) from strL_of (extract_tail s st)]
      exact hown'

theorem splitGo_len (sep : UInt8) : ∀ (l cur : List UInt8), (splitGo sep cur l).length ≤ l.length + 1
  | [], _ => by simp [splitGo]
  | c :: r, cur => by
    rw [splitGo]
    split
    · have := splitGo_len sep r []
      simp
      omega
    · have := splitGo_len sep r (cur ++ [c])
      simp
      omega

theorem splitL_len (l : List UInt8) (sep : UInt8) : (splitL l sep).length ≤ l.length + 1 := splitGo_len sep l []

end Go.Proofs.YtlhdafinfgdlkaaGreatDoor
