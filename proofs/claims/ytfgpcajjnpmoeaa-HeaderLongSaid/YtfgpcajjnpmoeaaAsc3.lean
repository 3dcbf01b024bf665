/- Contracts: the reference of Trim. -/
import Derived.Test.YtfgpcajjnpmoeaaProg
import Derived.Test.YtfgpcajjnpmoeaaKit
import Derived.Test.YtfgpcajjnpmoeaaAsc2
namespace Go.Proofs.Ytfgpcajjnpmoeaa
open Go.RowKit Go.Proofs

theorem isSp_no {c : UInt8} (h : isSp c = false) : ((c.toNat : Int) == 32) = false ∧ ((c.toNat : Int) == 9) = false := by
  have := isSp_iff c
  rw [h] at this
  simp at this
  exact ⟨beq_eq_false_iff_ne.2 (by omega), beq_eq_false_iff_ne.2 (by omega)⟩

theorem isSp_yes {c : UInt8} (h : isSp c = true) : ((c.toNat : Int) == 32) = true ∨ (((c.toNat : Int) == 32) = false ∧ ((c.toNat : Int) == 9) = true) := by
  have := (isSp_iff c).1 h
  by_cases h1 : (c.toNat : Int) = 32
  · exact .inl (beq_iff_eq.2 h1)
  · exact .inr ⟨beq_eq_false_iff_ne.2 h1, beq_iff_eq.2 (by omega)⟩

theorem ref_trim_any (s : ByteArray) (hs : s.size ≤ 1073741824) (w : World) :
    Calls Try.prog 34 #[.string s] w fun e w' => e = .returned (.string ⟨(trimL s.data.toList).toArray⟩) ∧ w' = w := by
  go_enter Try.func34, Try.ntmps34
  go_wp2
  go_loop [0] (fun v => ∃ t : ByteArray, v = .string t ∧ t.size ≤ s.size ∧ trimF t.data.toList = trimF s.data.toList) (fun v => strSize v)
  case atStart => exact ⟨s, rfl, Nat.le_refl _, rfl⟩
  case round =>
    obtain ⟨t, rfl, ht, htr⟩ := hrel
    have HT := Lib.hid htr
    clear htr
    by_cases hne : t.size = 0
    · have HF := Lib.hid (trimL_of ((trimF_nil t hne).symm.trans HT.out))
      go_wp2
      go_loop [0] (fun v => ∃ r : ByteArray, v = .string r ∧ r.size ≤ s.size ∧ trimR r.data.toList = trimL s.data.toList) (fun v => strSize v)
      case atStart => exact ⟨t, rfl, ht, HF.out⟩
      case round =>
        clear hne
        obtain ⟨r, rfl, hr, hrr⟩ := hrel
        have HR := Lib.hid hrr
        clear hrr
        by_cases hne2 : r.size = 0
        · have HE := Lib.hid ((trimR_nil r hne2).symm.trans HR.out)
          go_wp2
          go_ret
          exact ⟨ret_str (mk_list _ HE.out), rfl⟩
        · have h0 : 0 < r.size := by omega
          have hx : r.size - 1 < r.size := by omega
          cases hq : isSp r[r.size - 1]
          · have hno := isSp_no hq
            have h32 := hno.1
            have h9 := hno.2
            have HE := Lib.hid ((trimR_no r h0 hq).symm.trans HR.out)
            clear hq hno
            go_wp2
            go_ret
            exact ⟨ret_str (mk_list _ HE.out), rfl⟩
          · have HN := Lib.hid (trimR_yes r h0 hq)
            rcases isSp_yes hq with h32 | ⟨h32, h9⟩
            all_goals
              clear hq
              go_wp2
              go_round
              case rel => exact ⟨_, rfl, by simp; omega, HN.out.trans HR.out⟩
              case measure => simp [strSize]; omega
    · have h0 : 0 < t.size := by omega
      cases hq : isSp t[0]
      · have hno := isSp_no hq
        have h32 := hno.1
        have h9 := hno.2
        have HF := Lib.hid (trimL_of ((trimF_no t h0 hq).symm.trans HT.out))
        clear hq hno
        go_wp2
        go_loop [0] (fun v => ∃ r : ByteArray, v = .string r ∧ r.size ≤ s.size ∧ trimR r.data.toList = trimL s.data.toList) (fun v => strSize v)
        case atStart => exact ⟨t, rfl, ht, HF.out⟩
        case round =>
          clear hne h32 h9
          obtain ⟨r, rfl, hr, hrr⟩ := hrel
          have HR := Lib.hid hrr
          clear hrr
          by_cases hne2 : r.size = 0
          · have HE := Lib.hid ((trimR_nil r hne2).symm.trans HR.out)
            go_wp2
            go_ret
            exact ⟨ret_str (mk_list _ HE.out), rfl⟩
          · have h0 : 0 < r.size := by omega
            have hx : r.size - 1 < r.size := by omega
            cases hq : isSp r[r.size - 1]
            · have hno := isSp_no hq
              have h32 := hno.1
              have h9 := hno.2
              have HE := Lib.hid ((trimR_no r h0 hq).symm.trans HR.out)
              clear hq hno
              go_wp2
              go_ret
              exact ⟨ret_str (mk_list _ HE.out), rfl⟩
            · have HN := Lib.hid (trimR_yes r h0 hq)
              rcases isSp_yes hq with h32 | ⟨h32, h9⟩
              all_goals
                clear hq
                go_wp2
                go_round
                case rel => exact ⟨_, rfl, by simp; omega, HN.out.trans HR.out⟩
                case measure => simp [strSize]; omega
      · have HN := Lib.hid (trimF_yes t h0 hq)
        rcases isSp_yes hq with h32 | ⟨h32, h9⟩
        all_goals
          clear hq
          go_wp2
          go_round
          case rel => exact ⟨_, rfl, by simp; omega, HN.out.trans HT.out⟩
          case measure => simp [strSize]; omega

end Go.Proofs.Ytfgpcajjnpmoeaa
