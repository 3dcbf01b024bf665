/- Contracts: lists of texts. -/
import Derived.Test.YtfiocghgjjandaaProg
import Derived.Test.YtfiocghgjjandaaKit
namespace Go.Proofs.Ytfiocghgjjandaa
open Go.RowKit Go.Proofs

/-- A text as a value, by the list of its bytes. -/
def strL (l : List UInt8) : Value := .string ⟨l.toArray⟩

def eqLL (a b : List (List UInt8)) : Bool := decide (a = b)

theorem eqLL_yes {a b : List (List UInt8)} (h : a = b) : eqLL a b = true := decide_eq_true h

theorem eqLL_no {a b : List (List UInt8)} (h : a ≠ b) : eqLL a b = false := decide_eq_false h

theorem texts_any (va vb : Value) (a b : List (List UInt8)) (w : World) (ha : SliceAt w va (a.map strL)) (hb : SliceAt w vb (b.map strL)) (hla : a.length ≤ 1073741824) (hlb : b.length ≤ 1073741824) :
    Calls Try.prog 29 #[va, vb] w fun e w' => e = .returned (.bool (eqLL a b)) ∧ ∃ m, w' = w.drewN m := by
  by_cases hl : a.length = b.length
  · by_cases hne : a = []
    · have hbe : b = [] := List.eq_nil_of_length_eq_zero (by rw [← hl, hne]; rfl)
      subst hne hbe
      obtain ⟨aa, ca, rfl⟩ := ha.empty
      obtain ⟨ab, cb, rfl⟩ := hb.empty
      go_enter Try.func29, Try.ntmps29
      go_wp2
      refine wp_loop_rounds 1 ?_
      rw [rounds_succ]
      go_wp2
      go_ret
      exact ⟨rfl, 0, rfl⟩
    · have hbne : b ≠ [] := fun e => hne (List.eq_nil_of_length_eq_zero (by rw [hl, e]; rfl))
      obtain ⟨ba, oa, ca, rfl, hca⟩ := ha.at (by simpa using hne)
      obtain ⟨bb, ob, cb, rfl, hcb⟩ := hb.at (by simpa using hbne)
      rw [List.length_map, List.length_map]
      have hl0 : ((a.length : Int) != (b.length : Int)) = false := by rw [bne_eq_false_iff_eq]; omega
      have HA := Lib.hid hca
      have HB := Lib.hid hcb
      have HL := Lib.hid hl
      clear hca hcb ha hb hl hne hbne
      go_enter Try.func29, Try.ntmps29
      go_wp2
      go_loopw [5] (fun i wr => ∃ k : Nat, k ≤ a.length ∧ i = .int .i64 k ∧ a.take k = b.take k ∧ ∃ m, wr = w.drewN m) (fun i _ => a.length - (intOf i).toNat)
      case atStart => exact ⟨0, Nat.zero_le _, rfl, rfl, 0, rfl⟩
      case round =>
        clear hl0
        obtain ⟨k, hk, rfl, he, hm⟩ := hrel
        have hcell : ∀ p, wr.cell? p = w.cell? p := by obtain ⟨m, rfl⟩ := hm; intro p; rfl
        have HCELL := Lib.hid hcell
        have HM := Lib.hid hm
        have HE := Lib.hid he
        clear hcell hm he
        by_cases hlt : k < a.length
        · have hltb : k < b.length := by have := HL.out; omega
          obtain ⟨x, hx⟩ : ∃ x, a[k]? = some x := ⟨_, List.getElem?_eq_getElem hlt⟩
          obtain ⟨y, hy⟩ : ∃ y, b[k]? = some y := ⟨_, List.getElem?_eq_getElem hltb⟩
          have hcx : wr.cell? ⟨ba, oa + k, none⟩ = some (.string ⟨x.toArray⟩) := (HCELL.out _).trans (HA.out k (strL x) (by rw [List.getElem?_map, hx]; rfl))
          have hcy : wr.cell? ⟨bb, ob + k, none⟩ = some (.string ⟨y.toArray⟩) := (HCELL.out _).trans (HB.out k (strL y) (by rw [List.getElem?_map, hy]; rfl))
          have hx1 : (k : Int) < (a.length : Int) := by omega
          have hx2 : (k : Int) < (b.length : Int) := by omega
          by_cases hq : x = y
          · have hq0 : (x == y) = true := by simp [hq]
            have HN : Hid (a.take (k + 1) = b.take (k + 1)) := Lib.hid (by rw [take_succ_of hx, take_succ_of hy, HE.out, hq])
            clear hq hx hy
            go_wp2_with fail
            go_quiet (fail)
            go_wp2
            go_roundw
            case rel => exact ⟨k + 1, by omega, by go_num, HN.out, drewN_more HM.out _⟩
            case measure => simp [intOf]; omega
          · have hq0 : (x == y) = false := by simp [hq]
            have HF : Hid (eqLL a b = false) := Lib.hid (eqLL_no fun e => hq (by rw [e, hy] at hx; exact (Option.some.inj hx).symm))
            clear hq hx hy
            go_wp2_with fail
            go_quiet (fail)
            go_wp2
            go_ret
            exact ⟨ret_bool HF.out.symm, drewN_more HM.out _⟩
        · have HF : Hid (eqLL a b = true) := Lib.hid (eqLL_yes (by
            have h1 := HE.out
            have := HL.out
            rw [List.take_of_length_le (by omega), List.take_of_length_le (by omega)] at h1
            exact h1))
          go_wp2
          go_ret
          exact ⟨ret_bool HF.out.symm, HM.out⟩
  · obtain ⟨aa, ca, rfl⟩ := ha.len
    obtain ⟨ab, cb, rfl⟩ := hb.len
    have hl0 : ((a.length : Int) != (b.length : Int)) = true := by rw [bne_iff_ne]; omega
    have HF : Hid (eqLL a b = false) := Lib.hid (eqLL_no fun e => hl (by rw [e]))
    rw [List.length_map, List.length_map]
    clear hl
    go_enter Try.func29, Try.ntmps29
    go_wp2
    go_ret
    exact ⟨ret_bool HF.out.symm, 0, rfl⟩

end Go.Proofs.Ytfiocghgjjandaa
