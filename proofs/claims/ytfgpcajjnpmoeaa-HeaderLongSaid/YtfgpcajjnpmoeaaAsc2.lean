/- Contracts: Token's reference, Trim and its reference. -/
import Derived.Test.YtfgpcajjnpmoeaaProg
import Derived.Test.YtfgpcajjnpmoeaaKit
import Derived.Test.YtfgpcajjnpmoeaaAsc1
namespace Go.Proofs.Ytfgpcajjnpmoeaa
open Go.RowKit Go.Proofs

theorem ref_token_any (s : ByteArray) (hs : s.size ≤ 1073741824) (w : World) :
    Calls Try.prog 40 #[.string s] w fun e w' => e = .returned (.bool (tokL s.data.toList)) ∧ w' = w := by
  go_enter Try.func40, Try.ntmps40
  go_wp2
  go_loop [3] (fun i => ∃ k : Nat, k ≤ s.size ∧ i = .int .i64 k ∧ (s.data.toList.take k).all tokB = true) (fun i => s.size - (intOf i).toNat)
  case atStart => exact ⟨0, Nat.zero_le _, rfl, rfl⟩
  case round =>
    obtain ⟨k, hk, rfl, hno⟩ := hrel
    have HN := Lib.hid hno
    clear hno
    by_cases hlt : k < s.size
    · have hT : tokB s[k] = (isLet s[k].toNat || isDig s[k].toNat || hasB marksL s[k]) := rfl
      have step : ∀ b1 b2 b3, isLet s[k].toNat = b1 → isDig s[k].toNat = b2 → hasB marksL s[k] = b3 → True := fun _ _ _ _ _ _ => trivial
      clear step
      cases h1 : isLet s[k].toNat
      · cases h2 : isDig s[k].toNat
        · cases h3 : hasB marksL s[k]
          · rw [h1, h2, h3] at hT
            have HF := Lib.hid (tokL_no s k hlt hT)
            have H1 := Lib.hid h1
            have H2 := Lib.hid h2
            have H3 := Lib.hid h3
            clear h1 h2 h3 hT
            go_wp2_with fail
            refine (ref_letter_byte _ _).mono ?_
            rw [H1.out]
            rintro e w' ⟨rfl, rfl⟩
            go_wp2_with fail
            refine (ref_digit_byte _ _).mono ?_
            rw [H2.out]
            rintro e w' ⟨rfl, rfl⟩
            go_wp2_with fail
            refine (ref_has_any ⟨marksL.toArray⟩ _ (by decide) _).mono ?_
            rw [H3.out]
            rintro e w' ⟨rfl, rfl⟩
            go_wp2
            go_ret
            exact ⟨ret_bool HF.out.symm, rfl⟩
          · rw [h1, h2, h3] at hT
            have HF := Lib.hid (tokL_snoc s k hlt HN.out hT)
            have H1 := Lib.hid h1
            have H2 := Lib.hid h2
            have H3 := Lib.hid h3
            clear h1 h2 h3 hT
            go_wp2_with fail
            refine (ref_letter_byte _ _).mono ?_
            rw [H1.out]
            rintro e w' ⟨rfl, rfl⟩
            go_wp2_with fail
            refine (ref_digit_byte _ _).mono ?_
            rw [H2.out]
            rintro e w' ⟨rfl, rfl⟩
            go_wp2_with fail
            refine (ref_has_any ⟨marksL.toArray⟩ _ (by decide) _).mono ?_
            rw [H3.out]
            rintro e w' ⟨rfl, rfl⟩
            go_wp2
            go_round
            case rel => exact ⟨k + 1, by omega, by go_num, HF.out⟩
            case measure => simp [intOf]; omega
        · rw [h1, h2] at hT
          have HF := Lib.hid (tokL_snoc s k hlt HN.out hT)
          have H1 := Lib.hid h1
          have H2 := Lib.hid h2
          clear h1 h2 hT
          go_wp2_with fail
          refine (ref_letter_byte _ _).mono ?_
          rw [H1.out]
          rintro e w' ⟨rfl, rfl⟩
          go_wp2_with fail
          refine (ref_digit_byte _ _).mono ?_
          rw [H2.out]
          rintro e w' ⟨rfl, rfl⟩
          go_wp2
          go_round
          case rel => exact ⟨k + 1, by omega, by go_num, HF.out⟩
          case measure => simp [intOf]; omega
      · rw [h1] at hT
        have HF := Lib.hid (tokL_snoc s k hlt HN.out hT)
        have H1 := Lib.hid h1
        clear h1 hT
        go_wp2_with fail
        refine (ref_letter_byte _ _).mono ?_
        rw [H1.out]
        rintro e w' ⟨rfl, rfl⟩
        go_wp2
        go_round
        case rel => exact ⟨k + 1, by omega, by go_num, HF.out⟩
        case measure => simp [intOf]; omega
    · have hfin := HN.out
      rw [List.take_of_length_le (by simp; omega)] at hfin
      have HF := Lib.hid (tokL_end s hfin)
      clear hfin
      go_wp2
      go_ret
      exact ⟨ret_bool HF.out, rfl⟩

/-! Trim -/
def isSp (c : UInt8) : Bool := hasB [32, 9] c

def trimF (l : List UInt8) : List UInt8 := l.dropWhile isSp

def trimL (l : List UInt8) : List UInt8 := (trimF (trimF l).reverse).reverse

theorem isSp_iff (c : UInt8) : isSp c = true ↔ ((c.toNat : Int) = 32 ∨ (c.toNat : Int) = 9) := by
  unfold isSp hasB
  have h1 : c = 32 ↔ (c.toNat : Int) = 32 := by rw [← UInt8.toNat_inj]; show c.toNat = 32 ↔ _; omega
  have h2 : c = 9 ↔ (c.toNat : Int) = 9 := by rw [← UInt8.toNat_inj]; show c.toNat = 9 ↔ _; omega
  simp only [List.contains_cons, List.contains_nil, Bool.or_false, Bool.or_eq_true, beq_iff_eq, h1, h2]

theorem trimF_yes (t : ByteArray) (h : 0 < t.size) (hs : isSp t[0] = true) : trimF (t.extract 1 t.size).data.toList = trimF t.data.toList := by
  rw [extract_list, List.take_of_length_le (by rw [size_data]; exact Nat.le_refl _)]
  conv => rhs; rw [cons_of t h]
  unfold trimF
  rw [List.dropWhile_cons, if_pos hs]

theorem trimF_no (t : ByteArray) (h : 0 < t.size) (hs : isSp t[0] = false) : trimF t.data.toList = t.data.toList := by
  conv => lhs; rw [cons_of t h]
  conv => rhs; rw [cons_of t h]
  unfold trimF
  rw [List.dropWhile_cons, if_neg (by simp [hs])]

theorem trimF_nil (t : ByteArray) (h : t.size = 0) : trimF t.data.toList = t.data.toList := by
  rw [nil_of_size h]
  rfl

def trimR (l : List UInt8) : List UInt8 := (trimF l.reverse).reverse

theorem trimR_yes (t : ByteArray) (h : 0 < t.size) (hs : isSp t[t.size - 1] = true) : trimR (t.extract 0 (t.size - 1)).data.toList = trimR t.data.toList := by
  rw [extract_list, List.drop_zero]
  conv => rhs; rw [snoc_of t h]
  unfold trimR trimF
  rw [List.reverse_append, List.reverse_singleton, List.singleton_append, List.dropWhile_cons, if_pos hs]

theorem trimR_no (t : ByteArray) (h : 0 < t.size) (hs : isSp t[t.size - 1] = false) : trimR t.data.toList = t.data.toList := by
  conv => lhs; rw [snoc_of t h]
  conv => rhs; rw [snoc_of t h]
  unfold trimR trimF
  rw [List.reverse_append, List.reverse_singleton, List.singleton_append, List.dropWhile_cons, if_neg (by simp [hs])]
  simp

theorem trimR_nil (t : ByteArray) (h : t.size = 0) : trimR t.data.toList = t.data.toList := by
  rw [nil_of_size h]
  rfl

theorem trimL_of {t l : List UInt8} (h : t = trimF l) : trimR t = trimL l := by subst h; rfl

theorem trim_any (s : ByteArray) (hs : s.size ≤ 1073741824) (w : World) :
    Calls Try.prog 32 #[.string s] w fun e w' => e = .returned (.string ⟨(trimL s.data.toList).toArray⟩) ∧ Below w.heap.size w w' := by
  go_enter Try.func32, Try.ntmps32
  go_wp2
  go_loopw [2] (fun v wr => ∃ t : ByteArray, v = .string t ∧ t.size ≤ s.size ∧ trimF t.data.toList = trimF s.data.toList ∧ Below w.heap.size w wr) (fun v _ => strSize v)
  case atStart => exact ⟨s, rfl, Nat.le_refl _, rfl, Below.refl _ _⟩
  case round =>
    obtain ⟨t, rfl, ht, htr, hb⟩ := hrel
    have HT := Lib.hid htr
    clear htr
    obtain ⟨wo, hwo⟩ : ∃ wo : World, wo = wr := ⟨_, rfl⟩
    subst hwo
    by_cases hne : t.size = 0
    · have he := emptyYes hne
      have HF := Lib.hid (trimL_of ((trimF_nil t hne).symm.trans HT.out))
      go_wp2
      go_loopw [2] (fun v wr => ∃ r : ByteArray, v = .string r ∧ r.size ≤ s.size ∧ trimR r.data.toList = trimL s.data.toList ∧ Below w.heap.size w wr) (fun v _ => strSize v)
      case atStart => exact ⟨t, rfl, ht, HF.out, hb⟩
      case round =>
        clear he
        obtain ⟨r, rfl, hr, hrr, hb2⟩ := hrel
        have HR := Lib.hid hrr
        clear hrr
        obtain ⟨wo2, hwo2⟩ : ∃ wo2 : World, wo2 = wr := ⟨_, rfl⟩
        subst hwo2
        by_cases hne2 : r.size = 0
        · have he := emptyYes hne2
          have HE := Lib.hid ((trimR_nil r hne2).symm.trans HR.out)
          go_wp2
          go_ret
          exact ⟨ret_str (mk_list _ HE.out), hb2⟩
        · have he := emptyNo hne2
          have h0 : 0 < r.size := by omega
          have hx : r.size - 1 < r.size := by omega
          cases hq : isSp r[r.size - 1]
          · have HQ := Lib.hid hq
            have HE := Lib.hid ((trimR_no r h0 hq).symm.trans HR.out)
            clear hq
            go_wp2_with (go_at_call 57; refine (oneOf_byte_any r[r.size - 1] [32, 9] _ _ (by decide) (SliceAt.bytes _ _ _ _ _ _ rfl rfl)).mono ?_; rw [show hasB [32, 9] r[r.size - 1] = false from HQ.out]; rintro e w' ⟨rfl, rfl⟩)
            go_ret
            exact ⟨ret_str (mk_list _ HE.out), hb2.alloc hb2.size _⟩
          · have HQ := Lib.hid hq
            have HN := Lib.hid (trimR_yes r h0 hq)
            clear hq
            go_wp2_with (go_at_call 57; refine (oneOf_byte_any r[r.size - 1] [32, 9] _ _ (by decide) (SliceAt.bytes _ _ _ _ _ _ rfl rfl)).mono ?_; rw [show hasB [32, 9] r[r.size - 1] = true from HQ.out]; rintro e w' ⟨rfl, rfl⟩)
            go_roundw
            case rel => exact ⟨_, rfl, by simp; omega, HN.out.trans HR.out, hb2.alloc hb2.size _⟩
            case measure => simp [strSize]; omega
    · have he := emptyNo hne
      have h0 : 0 < t.size := by omega
      cases hq : isSp t[0]
      · have HQ := Lib.hid hq
        have HF := Lib.hid (trimL_of ((trimF_no t h0 hq).symm.trans HT.out))
        clear hq
        go_wp2_with (go_at_call 57; refine (oneOf_byte_any t[0] [32, 9] _ _ (by decide) (SliceAt.bytes _ _ _ _ _ _ rfl rfl)).mono ?_; rw [show hasB [32, 9] t[0] = false from HQ.out]; rintro e w' ⟨rfl, rfl⟩)
        go_loopw [2] (fun v wr => ∃ r : ByteArray, v = .string r ∧ r.size ≤ s.size ∧ trimR r.data.toList = trimL s.data.toList ∧ Below w.heap.size w wr) (fun v _ => strSize v)
        case atStart => exact ⟨t, rfl, ht, HF.out, hb.alloc hb.size _⟩
        case round =>
          clear he
          obtain ⟨r, rfl, hr, hrr, hb2⟩ := hrel
          have HR := Lib.hid hrr
          clear hrr
          obtain ⟨wo2, hwo2⟩ : ∃ wo2 : World, wo2 = wr := ⟨_, rfl⟩
          subst hwo2
          by_cases hne2 : r.size = 0
          · have he := emptyYes hne2
            have HE := Lib.hid ((trimR_nil r hne2).symm.trans HR.out)
            go_wp2
            go_ret
            exact ⟨ret_str (mk_list _ HE.out), hb2⟩
          · have he := emptyNo hne2
            have h0 : 0 < r.size := by omega
            have hx : r.size - 1 < r.size := by omega
            cases hq : isSp r[r.size - 1]
            · have HQ := Lib.hid hq
              have HE := Lib.hid ((trimR_no r h0 hq).symm.trans HR.out)
              clear hq
              go_wp2_with (go_at_call 57; refine (oneOf_byte_any r[r.size - 1] [32, 9] _ _ (by decide) (SliceAt.bytes _ _ _ _ _ _ rfl rfl)).mono ?_; rw [show hasB [32, 9] r[r.size - 1] = false from HQ.out]; rintro e w' ⟨rfl, rfl⟩)
              go_ret
              exact ⟨ret_str (mk_list _ HE.out), hb2.alloc hb2.size _⟩
            · have HQ := Lib.hid hq
              have HN := Lib.hid (trimR_yes r h0 hq)
              clear hq
              go_wp2_with (go_at_call 57; refine (oneOf_byte_any r[r.size - 1] [32, 9] _ _ (by decide) (SliceAt.bytes _ _ _ _ _ _ rfl rfl)).mono ?_; rw [show hasB [32, 9] r[r.size - 1] = true from HQ.out]; rintro e w' ⟨rfl, rfl⟩)
              go_roundw
              case rel => exact ⟨_, rfl, by simp; omega, HN.out.trans HR.out, hb2.alloc hb2.size _⟩
              case measure => simp [strSize]; omega
      · have HQ := Lib.hid hq
        have HN := Lib.hid (trimF_yes t h0 hq)
        clear hq
        go_wp2_with (go_at_call 57; refine (oneOf_byte_any t[0] [32, 9] _ _ (by decide) (SliceAt.bytes _ _ _ _ _ _ rfl rfl)).mono ?_; rw [show hasB [32, 9] t[0] = true from HQ.out]; rintro e w' ⟨rfl, rfl⟩)
        go_roundw
        case rel => exact ⟨_, rfl, by simp; omega, HN.out.trans HT.out, hb.alloc hb.size _⟩
        case measure => simp [strSize]; omega

end Go.Proofs.Ytfgpcajjnpmoeaa
