/- Contracts: bytes of ASCII, membership in lists. -/
import Derived.Test.YtfgpcajjnpmoeaaProg
import Derived.Test.YtfgpcajjnpmoeaaShelf
import Derived.Test.YtfgpcajjnpmoeaaKit
import Derived.Test.YtfgpcajjnpmoeaaPlain
import Derived.Test.YtfgpcajjnpmoeaaLow
namespace Go.Proofs.Ytfgpcajjnpmoeaa
open Go.RowKit Go.Proofs

def isDig (n : Int) : Bool := decide (48 ≤ n ∧ n ≤ 57)

def isLet (n : Int) : Bool := decide ((97 ≤ n ∧ n ≤ 122) ∨ (65 ≤ n ∧ n ≤ 90))

theorem isDig_yes {n : Int} (h : 48 ≤ n ∧ n ≤ 57) : isDig n = true := decide_eq_true h

theorem isDig_no {n : Int} (h : ¬ (48 ≤ n ∧ n ≤ 57)) : isDig n = false := decide_eq_false h

theorem isLet_yes {n : Int} (h : (97 ≤ n ∧ n ≤ 122) ∨ (65 ≤ n ∧ n ≤ 90)) : isLet n = true := decide_eq_true h

theorem isLet_no {n : Int} (h : ¬ ((97 ≤ n ∧ n ≤ 122) ∨ (65 ≤ n ∧ n ≤ 90))) : isLet n = false := decide_eq_false h

theorem digit_byte (c : UInt8) (w : World) : Calls Try.prog 69 #[.int .u8 c.toNat] w fun e w' => e = .returned (.bool (isDig c.toNat)) ∧ w' = w := by
  have hb := byte_bd c
  by_cases h1 : 48 ≤ (c.toNat : Int)
  · by_cases h2 : (c.toNat : Int) ≤ 57
    · go_enter Try.func69, Try.ntmps69
      go_wp2
      go_ret
      exact ⟨ret_bool (isDig_yes ⟨h1, h2⟩).symm, rfl⟩
    · go_enter Try.func69, Try.ntmps69
      go_wp2
      go_ret
      exact ⟨ret_bool (isDig_no (by omega)).symm, rfl⟩
  · go_enter Try.func69, Try.ntmps69
    go_wp2
    go_ret
    exact ⟨ret_bool (isDig_no (by omega)).symm, rfl⟩

theorem ref_digit_byte (c : UInt8) (w : World) : Calls Try.prog 48 #[.int .u8 c.toNat] w fun e w' => e = .returned (.bool (isDig c.toNat)) ∧ w' = w := by
  have hb := byte_bd c
  by_cases h1 : 48 ≤ (c.toNat : Int)
  · by_cases h2 : (c.toNat : Int) ≤ 57
    · go_enter Try.func48, Try.ntmps48
      go_wp2
      go_ret
      exact ⟨ret_bool (isDig_yes ⟨h1, h2⟩).symm, rfl⟩
    · go_enter Try.func48, Try.ntmps48
      go_wp2
      go_ret
      exact ⟨ret_bool (isDig_no (by omega)).symm, rfl⟩
  · go_enter Try.func48, Try.ntmps48
    go_wp2
    go_ret
    exact ⟨ret_bool (isDig_no (by omega)).symm, rfl⟩

theorem letter_byte (c : UInt8) (w : World) : Calls Try.prog 68 #[.int .u8 c.toNat] w fun e w' => e = .returned (.bool (isLet c.toNat)) ∧ w' = w := by
  have hb := byte_bd c
  obtain ⟨m, hm⟩ : ∃ m, m = lowI c.toNat := ⟨_, rfl⟩
  have hiff : isLet c.toNat = decide (97 ≤ m ∧ m ≤ 122) := by
    subst hm
    unfold isLet lowI
    rw [Bool.eq_iff_iff]
    simp only [decide_eq_true_eq]
    split <;> omega
  have HI := Lib.hid hiff
  clear hiff
  have HM := Lib.hid hm
  clear hm
  have hmb : 0 ≤ m ∧ m ≤ 255 := by rw [HM.out]; exact lowI_bd _ hb.1 hb.2
  by_cases h1 : 97 ≤ m
  · by_cases h2 : m ≤ 122
    · go_enter Try.func68, Try.ntmps68
      go_wp2_with (go_at_call 59; refine (lower_byte _ _).mono ?_; rw [← HM.out]; rintro e w' ⟨rfl, rfl⟩)
      go_ret
      exact ⟨ret_bool (by rw [HI.out]; simp [h1, h2]), rfl⟩
    · go_enter Try.func68, Try.ntmps68
      go_wp2_with (go_at_call 59; refine (lower_byte _ _).mono ?_; rw [← HM.out]; rintro e w' ⟨rfl, rfl⟩)
      go_ret
      exact ⟨ret_bool (by rw [HI.out, Bool.eq_iff_iff]; simp <;> omega), rfl⟩
  · go_enter Try.func68, Try.ntmps68
    go_wp2_with (go_at_call 59; refine (lower_byte _ _).mono ?_; rw [← HM.out]; rintro e w' ⟨rfl, rfl⟩)
    go_ret
    exact ⟨ret_bool (by rw [HI.out, Bool.eq_iff_iff]; simp <;> omega), rfl⟩

theorem ref_letter_byte (c : UInt8) (w : World) : Calls Try.prog 47 #[.int .u8 c.toNat] w fun e w' => e = .returned (.bool (isLet c.toNat)) ∧ w' = w := by
  have hb := byte_bd c
  rcases (by omega : (65 ≤ (c.toNat : Int) ∧ (c.toNat : Int) ≤ 90) ∨ (97 ≤ (c.toNat : Int) ∧ (c.toNat : Int) ≤ 122) ∨ (c.toNat : Int) < 65 ∨ (91 ≤ (c.toNat : Int) ∧ (c.toNat : Int) ≤ 96) ∨ 123 ≤ (c.toNat : Int)) with ⟨h, h'⟩ | ⟨h, h'⟩ | h | hno
  · go_enter Try.func47, Try.ntmps47
    go_wp2
    go_ret
    exact ⟨ret_bool (isLet_yes (by omega)).symm, rfl⟩
  · go_enter Try.func47, Try.ntmps47
    go_wp2
    go_ret
    exact ⟨ret_bool (isLet_yes (by omega)).symm, rfl⟩
  · go_enter Try.func47, Try.ntmps47
    go_wp2
    go_ret
    exact ⟨ret_bool (isLet_no (n := (c.toNat : Int)) (by omega)).symm, rfl⟩
  · rcases hno with ⟨h, h'⟩ | h
    all_goals
      go_enter Try.func47, Try.ntmps47
      go_wp2
      go_ret
      exact ⟨ret_bool (by rw [isLet_no (n := (c.toNat : Int)) (by omega), Bool.eq_iff_iff]; simp <;> omega), rfl⟩

/-- Is the byte among those? -/
def hasB (l : List UInt8) (c : UInt8) : Bool := l.contains c

theorem hasB_eq (l : List UInt8) (c : UInt8) : hasB l c = l.contains c := rfl

theorem contains_take_snoc (s : ByteArray) (k : Nat) (h : k < s.size) (c : UInt8) (hno : (s.data.toList.take k).contains c = false) (hne : s[k].toNat ≠ c.toNat) : (s.data.toList.take (k + 1)).contains c = false := by
  rw [take_snoc s k h]
  simp at hno ⊢
  refine ⟨hno, fun e => hne ?_⟩
  rw [e]

theorem contains_at (s : ByteArray) (k : Nat) (h : k < s.size) (c : UInt8) (he : s[k].toNat = c.toNat) : s.data.toList.contains c = true := by
  have : s[k] = c := UInt8.toNat_inj.1 he
  simp
  rw [← this]
  exact Array.getElem_mem _

/-- Has: whether a byte is among those of a text. -/
theorem ref_has_any (s : ByteArray) (c : UInt8) (hs : s.size ≤ 1073741824) (w : World) :
    Calls Try.prog 49 #[.string s, .int .u8 c.toNat] w fun e w' => e = .returned (.bool (hasB s.data.toList c)) ∧ w' = w := by
  go_enter Try.func49, Try.ntmps49
  go_wp2
  go_loop [5] (fun i => ∃ k : Nat, k ≤ s.size ∧ i = .int .i64 k ∧ (s.data.toList.take k).contains c = false) (fun i => s.size - (intOf i).toNat)
  case atStart => exact ⟨0, Nat.zero_le _, rfl, rfl⟩
  case round =>
    obtain ⟨k, hk, rfl, hno⟩ := hrel
    have HN := Lib.hid hno
    clear hno
    by_cases hlt : k < s.size
    · by_cases hq : s[k].toNat = c.toNat
      · have hq0 : ((s[k].toNat : Int) == (c.toNat : Int)) = true := beq_iff_eq.2 (by omega)
        have HF := Lib.hid (contains_at s k hlt c hq)
        clear hq
        go_wp2
        go_ret
        exact ⟨ret_bool HF.out.symm, rfl⟩
      · have hq0 : ((s[k].toNat : Int) == (c.toNat : Int)) = false := beq_eq_false_iff_ne.2 (by omega)
        have HF := Lib.hid (contains_take_snoc s k hlt c HN.out hq)
        clear hq
        go_wp2
        go_round
        case rel => exact ⟨k + 1, by omega, by go_num, HF.out⟩
        case measure => simp [intOf]; omega
    · have hfin := HN.out
      rw [List.take_of_length_le (by simp; omega)] at hfin
      have HF := Lib.hid hfin
      clear hfin
      go_wp2
      go_ret
      exact ⟨ret_bool HF.out.symm, rfl⟩

theorem mem_take_snoc {l : List UInt8} {k : Nat} {d c : UInt8} (hd : l[k]? = some d) (hno : c ∉ l.take k) (hne : d.toNat ≠ c.toNat) : c ∉ l.take (k + 1) := by
  obtain ⟨hk, rfl⟩ := List.getElem?_eq_some_iff.1 hd
  rw [List.take_succ_eq_append_getElem hk]
  intro h
  rcases List.mem_append.1 h with h | h
  · exact hno h
  · exact hne (by rw [List.mem_singleton.1 h])

/-- slices.Index of bytes. -/
theorem idx_byte_any (c : UInt8) (l : List UInt8) (v : Value) (w : World) (hl : l.length ≤ 1073741824) (hv : SliceAt w v (l.map byteV)) :
    Calls Try.prog 74 #[v, .int .u8 c.toNat] w fun e w' => (∃ i : Int, e = .returned (.int .i64 i) ∧ (0 ≤ i ↔ c ∈ l)) ∧ w' = w := by
  by_cases hne : l = []
  · subst hne
    obtain ⟨a, cp, rfl⟩ := hv.empty
    go_enter Try.func74, Try.ntmps74
    go_wp2
    refine wp_loop_rounds 1 ?_
    rw [rounds_succ]
    go_wp2
    go_ret
    exact ⟨⟨-1, rfl, by simp⟩, rfl⟩
  · obtain ⟨b, off, cp, rfl, hc⟩ := hv.at (by simpa using hne)
    rw [List.length_map]
    have HC := Lib.hid hc
    clear hc hv
    go_enter Try.func74, Try.ntmps74
    go_wp2
    go_loop [8] (fun i => ∃ k : Nat, k ≤ l.length ∧ i = .int .i64 k ∧ c ∉ l.take k) (fun i => l.length - (intOf i).toNat)
    case atStart => exact ⟨0, Nat.zero_le _, rfl, by simp⟩
    case round =>
      obtain ⟨k, hk, rfl, hno⟩ := hrel
      have HN := Lib.hid hno
      clear hno
      by_cases hlt : k < l.length
      · obtain ⟨d, hd⟩ : ∃ d, l[k]? = some d := ⟨_, List.getElem?_eq_getElem hlt⟩
        have hcell := HC.out k (.int .u8 d.toNat) (by rw [List.getElem?_map, hd]; rfl)
        by_cases hq : d.toNat = c.toNat
        · have hq0 : ((c.toNat : Int) == (d.toNat : Int)) = true := beq_iff_eq.2 (by omega)
          have hmem : c ∈ l := by
            have : d = c := UInt8.toNat_inj.1 hq
            rw [← this]
            exact List.mem_of_getElem? hd
          have HF := Lib.hid hmem
          clear hq hd hmem
          go_wp2
          go_ret
          exact ⟨⟨k, rfl, by simp [HF.out]⟩, rfl⟩
        · have hq0 : ((c.toNat : Int) == (d.toNat : Int)) = false := beq_eq_false_iff_ne.2 (by omega)
          have HF := Lib.hid (mem_take_snoc hd HN.out hq)
          clear hq hd
          go_wp2
          go_round
          case rel => exact ⟨k + 1, by omega, by go_num, HF.out⟩
          case measure => simp [intOf]; omega
      · have hfin := HN.out
        rw [List.take_of_length_le (by omega)] at hfin
        have HF := Lib.hid hfin
        clear hfin
        go_wp2
        go_ret
        exact ⟨⟨-1, rfl, by simp [HF.out]⟩, rfl⟩

theorem contains_byte_any (c : UInt8) (l : List UInt8) (v : Value) (w : World) (hl : l.length ≤ 1073741824) (hv : SliceAt w v (l.map byteV)) :
    Calls Try.prog 66 #[v, .int .u8 c.toNat] w fun e w' => e = .returned (.bool (hasB l c)) ∧ w' = w := by
  go_enter Try.func66, Try.ntmps66
  go_wp2_with fail
  refine (idx_byte_any c l v w hl hv).mono ?_
  rintro e w' ⟨⟨i, rfl, hi⟩, rfl⟩
  have HI := Lib.hid hi
  clear hi
  go_wp2
  go_ret
  refine ⟨ret_bool ?_, rfl⟩
  rw [Bool.eq_iff_iff, hasB_eq]
  simp [HI.out]

theorem oneOf_byte_any (c : UInt8) (l : List UInt8) (v : Value) (w : World) (hl : l.length ≤ 1073741824) (hv : SliceAt w v (l.map byteV)) :
    Calls Try.prog 57 #[.int .u8 c.toNat, v] w fun e w' => e = .returned (.bool (hasB l c)) ∧ w' = w := by
  go_enter Try.func57, Try.ntmps57
  go_wp2_with fail
  refine (contains_byte_any c l v w hl hv).mono ?_
  rintro e w' ⟨rfl, rfl⟩
  go_wp2
  go_ret
  exact ⟨rfl, rfl⟩

def marksL : List UInt8 := [33, 35, 36, 37, 38, 39, 42, 43, 45, 46, 94, 95, 124, 126, 96]

/-- May the byte stand in a token? -/
def tokB (c : UInt8) : Bool := isLet c.toNat || isDig c.toNat || hasB marksL c

theorem indexByte_contains (l : List UInt8) (c : UInt8) : decide (0 ≤ Lib.indexByte l c) = hasB l c := by
  have h : (-1 ≤ Lib.indexByte l c) ∧ (0 ≤ Lib.indexByte l c ↔ c ∈ l) := by
    induction l with
    | nil => simp [Lib.indexByte]
    | cons b l ih =>
      simp only [Lib.indexByte]
      by_cases h1 : b == c
      · simp only [h1, if_true]
        have : b = c := by simpa using h1
        simp [this]
      · have h1' : b ≠ c := by simpa using h1
        rw [if_neg h1]
        by_cases h2 : Lib.indexByte l c == -1
        · rw [if_pos h2]
          have h2' : Lib.indexByte l c = -1 := by simpa using h2
          have : c ∉ l := by rw [← ih.2]; omega
          simp [this, Ne.symm h1']
        · rw [if_neg h2]
          have h2' : Lib.indexByte l c ≠ -1 := by simpa using h2
          have : c ∈ l := by rw [← ih.2]; omega
          simp [this]
          omega
  rw [Bool.eq_iff_iff, hasB_eq]
  simp [h.2]

theorem inToken_byte (c : UInt8) (w : World) : Calls Try.prog 60 #[.int .u8 c.toNat] w fun e w' => e = .returned (.bool (tokB c)) ∧ w' = w := by
  have hm := indexByte_contains marksL c
  have HM := Lib.hid hm
  clear hm
  have hT : tokB c = (isLet c.toNat || isDig c.toNat || hasB marksL c) := rfl
  cases h1 : isLet c.toNat
  · cases h2 : isDig c.toNat
    · rw [h1, h2] at hT
      have HT := Lib.hid hT
      have H1 := Lib.hid h1
      have H2 := Lib.hid h2
      clear hT h1 h2
      go_enter Try.func60, Try.ntmps60
      go_wp2_with fail
      refine (letter_byte c _).mono ?_
      rw [H1.out]
      rintro e w' ⟨rfl, rfl⟩
      go_wp2_with fail
      refine (digit_byte c _).mono ?_
      rw [H2.out]
      rintro e w' ⟨rfl, rfl⟩
      go_wp2_with fail
      refine (Try.strings_IndexByte _ c.toNat _).mono ?_
      rintro e w' ⟨rfl, rfl⟩
      go_wp2
      go_ret
      refine ⟨ret_bool ?_, rfl⟩
      rw [HT.out, ← HM.out]
      rfl
    · rw [h1, h2] at hT
      have HT := Lib.hid hT
      have H1 := Lib.hid h1
      have H2 := Lib.hid h2
      clear hT h1 h2
      go_enter Try.func60, Try.ntmps60
      go_wp2_with fail
      refine (letter_byte c _).mono ?_
      rw [H1.out]
      rintro e w' ⟨rfl, rfl⟩
      go_wp2_with fail
      refine (digit_byte c _).mono ?_
      rw [H2.out]
      rintro e w' ⟨rfl, rfl⟩
      go_wp2
      go_ret
      exact ⟨ret_bool (by rw [HT.out]; rfl), rfl⟩
  · rw [h1] at hT
    have HT := Lib.hid hT
    have H1 := Lib.hid h1
    clear hT h1
    go_enter Try.func60, Try.ntmps60
    go_wp2_with fail
    refine (letter_byte c _).mono ?_
    rw [H1.out]
    rintro e w' ⟨rfl, rfl⟩
    go_wp2
    go_ret
    exact ⟨ret_bool (by rw [HT.out]; rfl), rfl⟩

/-- Is the text a token? -/
def tokL (l : List UInt8) : Bool := !l.isEmpty && l.all tokB

theorem tokL_snoc (s : ByteArray) (k : Nat) (h : k < s.size) (ha : (s.data.toList.take k).all tokB = true) (hb : tokB s[k] = true) : (s.data.toList.take (k + 1)).all tokB = true := by
  rw [take_snoc s k h, List.all_append, ha]
  simp [hb]

theorem tokL_no (s : ByteArray) (k : Nat) (h : k < s.size) (hb : tokB s[k] = false) : tokL s.data.toList = false := by
  unfold tokL
  have : s.data.toList.all tokB = false := by
    rw [List.all_eq_false]
    exact ⟨s[k], by rw [Array.mem_toList_iff]; exact Array.getElem_mem _, by simp [hb]⟩
  simp [this]

theorem tokL_end (s : ByteArray) (ha : s.data.toList.all tokB = true) : (!s.toList.isEmpty) = tokL s.data.toList := by
  unfold tokL
  rw [ha, ByteArray.toList_eq, Bool.and_true]

theorem token_any (s : ByteArray) (hs : s.size ≤ 1073741824) (w : World) :
    Calls Try.prog 37 #[.string s] w fun e w' => e = .returned (.bool (tokL s.data.toList)) ∧ w' = w := by
  go_enter Try.func37, Try.ntmps37
  go_wp2
  go_loop [6] (fun i => ∃ k : Nat, k ≤ s.size ∧ i = .int .i64 k ∧ (s.data.toList.take k).all tokB = true) (fun i => s.size - (intOf i).toNat)
  case atStart => exact ⟨0, Nat.zero_le _, rfl, rfl⟩
  case round =>
    obtain ⟨k, hk, rfl, hno⟩ := hrel
    have HN := Lib.hid hno
    clear hno
    by_cases hlt : k < s.size
    · cases hq : tokB s[k]
      · have HF := Lib.hid (tokL_no s k hlt hq)
        have HQ := Lib.hid hq
        clear hq
        go_wp2_with (go_at_call 60; refine (inToken_byte _ _).mono ?_; rw [HQ.out]; rintro e w' ⟨rfl, rfl⟩)
        go_ret
        exact ⟨ret_bool HF.out.symm, rfl⟩
      · have HF := Lib.hid (tokL_snoc s k hlt HN.out hq)
        have HQ := Lib.hid hq
        clear hq
        go_wp2_with (go_at_call 60; refine (inToken_byte _ _).mono ?_; rw [HQ.out]; rintro e w' ⟨rfl, rfl⟩)
        go_round
        case rel => exact ⟨k + 1, by omega, by go_num, HF.out⟩
        case measure => simp [intOf]; omega
    · have hfin := HN.out
      rw [List.take_of_length_le (by simp; omega)] at hfin
      have HF := Lib.hid (tokL_end s hfin)
      clear hfin
      go_wp2
      go_ret
      exact ⟨ret_bool HF.out, rfl⟩

end Go.Proofs.Ytfgpcajjnpmoeaa
