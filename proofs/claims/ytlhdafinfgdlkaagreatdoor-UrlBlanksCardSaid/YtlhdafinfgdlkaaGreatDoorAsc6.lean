/- Contracts: Number. -/
import Derived.Test.YtlhdafinfgdlkaaGreatDoorProg
import Derived.Test.YtlhdafinfgdlkaaGreatDoorKit
import Derived.Test.YtlhdafinfgdlkaaGreatDoorPlain
import Derived.Test.YtlhdafinfgdlkaaGreatDoorAsc1
namespace Go.Proofs.YtlhdafinfgdlkaaGreatDoor
open Go.RowKit Go.Proofs
set_option maxRecDepth 100000

def numVal (l : List UInt8) : Int := l.foldl (fun n c => 10 * n + ((c.toNat : Int) - 48)) 0

def numOk (l : List UInt8) (max : Int) : Bool := decide (l ≠ [] ∧ (l.length : Int) ≤ max ∧ l.length ≤ 18 ∧ (l.head? = some 48 → l = [48])) && l.all (fun c => isDig c.toNat)

def numN (l : List UInt8) (max : Int) : Int := if numOk l max = true then numVal l else 0

theorem numVal_snoc (l : List UInt8) (c : UInt8) : numVal (l ++ [c]) = 10 * numVal l + ((c.toNat : Int) - 48) := by unfold numVal; rw [List.foldl_append]; rfl

theorem isDig_bd {n : Int} (h : isDig n = true) : 48 ≤ n ∧ n ≤ 57 := of_decide_eq_true h

theorem numVal_bd (l : List UInt8) : l.all (fun c => isDig c.toNat) = true → 0 ≤ numVal l ∧ numVal l < 10 ^ l.length := by
  suffices h : ∀ (r : List UInt8), r.reverse.all (fun c => isDig c.toNat) = true → 0 ≤ numVal r.reverse ∧ numVal r.reverse < 10 ^ r.length by
    intro hl
    have := h l.reverse (by rwa [List.reverse_reverse])
    rwa [List.reverse_reverse, List.length_reverse] at this
  intro r
  induction r with
  | nil => intro _; simp [numVal]
  | cons c r ih =>
    intro h
    rw [List.reverse_cons, List.all_append] at h
    simp only [Bool.and_eq_true, List.all_cons, List.all_nil, and_true] at h
    have h1 := ih h.1
    have h2 := isDig_bd h.2
    rw [List.reverse_cons, numVal_snoc, List.length_cons, Int.pow_succ]
    omega

theorem numN_no {l : List UInt8} {max : Int} (h : numOk l max = false) : numN l max = 0 := by unfold numN; rw [h]; rfl

theorem numN_yes {l : List UInt8} {max : Int} (h : numOk l max = true) : numN l max = numVal l := by unfold numN; rw [h]; rfl

theorem ret_nb {k : IntKind} {a b : Int} {p q : Bool} (h : a = b) (h2 : p = q) : Ending.returned (.tuple #[.int k a, .bool p]) = .returned (.tuple #[.int k b, .bool q]) := by rw [h, h2]

theorem numBig {v : Int} {k : Nat} (h : 0 ≤ v ∧ v < 10 ^ k) (hk : k ≤ 17) : 0 ≤ v ∧ v ≤ 99999999999999999 := by
  have h2 : (10 : Int) ^ k ≤ 10 ^ 17 := by
    have := Nat.pow_le_pow_right (n := 10) (by decide) hk
    exact_mod_cast this
  have h3 : (10 : Int) ^ 17 = 100000000000000000 := by decide
  omega

theorem numOk_bad (s : ByteArray) (max : Int) (k : Nat) (h : k < s.size) (hq : isDig s[k].toNat = false) : numOk s.data.toList max = false := by
  unfold numOk
  have : s.data.toList.all (fun c => isDig c.toNat) = false := by
    rw [List.all_eq_false]
    exact ⟨s[k], by rw [Array.mem_toList_iff]; exact Array.getElem_mem _, by simp [hq]⟩
  rw [this, Bool.and_false]

theorem numOk_good (s : ByteArray) (max : Int) (h0 : s.size ≠ 0) (h1 : (s.size : Int) ≤ max) (h2 : s.size ≤ 18) (hz : s.data.toList.head? = some 48 → s.data.toList = [48]) (hall : s.data.toList.all (fun c => isDig c.toNat) = true) : numOk s.data.toList max = true := by
  unfold numOk
  rw [hall, Bool.and_true]
  refine decide_eq_true ⟨fun e => h0 (by rw [← size_data, e]; rfl), by rw [size_data]; exact h1, by rw [size_data]; exact h2, hz⟩

theorem numOk_long (s : ByteArray) (max : Int) (h : max < s.size ∨ 18 < s.size) : numOk s.data.toList max = false := by
  unfold numOk
  rw [decide_eq_false, Bool.false_and]
  rintro ⟨_, h1, h2, _⟩
  rw [size_data] at h1 h2
  omega

theorem numOk_zero (s : ByteArray) (max : Int) (h1 : s.data.toList.head? = some 48) (h2 : s.data.toList ≠ [48]) : numOk s.data.toList max = false := by
  unfold numOk
  rw [decide_eq_false, Bool.false_and]
  rintro ⟨_, _, _, h⟩
  exact h2 (h h1)

theorem head_of (s : ByteArray) (h : 0 < s.size) : s.data.toList.head? = some s[0] := by rw [cons_of s h]; rfl

theorem byte_eq_iff (c : UInt8) (n : Nat) (hn : n < 256) : c = UInt8.ofNat n ↔ (c.toNat : Int) = n := by
  rw [← UInt8.toNat_inj, UInt8.toNat_ofNat', Nat.mod_eq_of_lt (by omega)]
  omega

theorem number_any (s : ByteArray) (max : Int) (_hs : s.size ≤ 1073741824) (hm : -9223372036854775808 ≤ max ∧ max ≤ 9223372036854775807) (w : World) :
    Calls Tryz.prog 94 #[.string s, .int .i64 max] w fun e w' => e = .returned (.tuple #[.int .i64 (numN s.data.toList max), .bool (numOk s.data.toList max)]) ∧ w' = w := by
  by_cases h0 : s.size = 0
  · have he := emptyYes h0
    have HO : Hid (numOk s.data.toList max = false) := Lib.hid (by rw [nil_of_size h0]; rfl)
    clear h0
    by_cases hmx : 18 < max
    all_goals
      go_enter Tryz.func94, Tryz.ntmps94
      go_wp2
      go_ret2
      exact ⟨ret_nb (numN_no HO.out).symm HO.out.symm, rfl⟩
  · have he := emptyNo h0
    have hpos : 0 < s.size := by omega
    have hx0 : (0 : Int) < (s.size : Int) := by omega
    have hcase : (18 < max ∧ 18 < (s.size : Int)) ∨ (max ≤ 18 ∧ max < (s.size : Int)) ∨ (18 < max ∧ (s.size : Int) ≤ 18) ∨ (max ≤ 18 ∧ (s.size : Int) ≤ max) := by omega
    rcases hcase with ⟨ha, hb⟩ | ⟨ha, hb⟩ | hshort
    · have HO := Lib.hid (numOk_long s max (by omega))
      go_enter Tryz.func94, Tryz.ntmps94
      go_wp2
      go_ret2
      exact ⟨ret_nb (numN_no HO.out).symm HO.out.symm, rfl⟩
    · have HO := Lib.hid (numOk_long s max (by omega))
      go_enter Tryz.func94, Tryz.ntmps94
      go_wp2
      go_ret2
      exact ⟨ret_nb (numN_no HO.out).symm HO.out.symm, rfl⟩
    · have h18 : s.size ≤ 18 := by omega
      have hmax : (s.size : Int) ≤ max := by omega
      have hh := head_of s hpos
      have hb48 := byte_eq_iff s[0] 48 (by decide)
      have hzz : ((s[0].toNat : Int) = 48 ∧ 1 < s.size) ∨ ((s[0].toNat : Int) = 48 ∧ s.size = 1) ∨ (s[0].toNat : Int) ≠ 48 := by omega
      rcases hzz with ⟨hz, h1⟩ | hrest
      · have hz0 : ((s[0].toNat : Int) == 48) = true := beq_iff_eq.2 hz
        have hone0 : (s.toList == [48]) = false := by
          rw [ByteArray.toList_eq]
          refine beq_eq_false_iff_ne.2 fun e => ?_
          have := congrArg List.length e
          rw [size_data] at this
          simp at this
          omega
        have HO := Lib.hid (numOk_zero s max (by rw [hh, hb48.2 hz]; rfl) (fun e => by
          have := congrArg List.length e
          rw [size_data] at this
          simp at this
          omega))
        clear hz hh hb48
        rcases hshort with ⟨ha, hb⟩ | ⟨ha, hb⟩
        all_goals
          go_enter Tryz.func94, Tryz.ntmps94
          go_wp2
          go_ret2
          exact ⟨ret_nb (numN_no HO.out).symm HO.out.symm, rfl⟩
      · have HZ : Hid (s.data.toList.head? = some 48 → s.data.toList = [48]) := Lib.hid fun e => by
          rcases hrest with ⟨hz, h1⟩ | hz
          · have hc := cons_of s hpos
            rw [hc, List.drop_eq_nil_of_le (by rw [size_data]; omega)]
            rw [show s[0] = 48 from hb48.2 hz]
          · exact absurd (hb48.1 (by rw [hh] at e; exact Option.some.inj e)) hz
        have hz0 : (((s[0].toNat : Int) == 48) = true ∧ (s.toList == [48]) = true) ∨ ((s[0].toNat : Int) == 48) = false := by
          rcases hrest with ⟨hz, h1⟩ | hz
          · refine .inl ⟨beq_iff_eq.2 hz, ?_⟩
            rw [ByteArray.toList_eq, HZ.out (by rw [hh, hb48.2 hz]; rfl)]
            rfl
          · exact .inr (beq_eq_false_iff_ne.2 hz)
        clear hrest hh hb48
        rcases hz0 with ⟨hz0, h1⟩ | hz0
        all_goals
          rcases hshort with ⟨ha, hb⟩ | ⟨ha, hb⟩
          all_goals
            go_enter Tryz.func94, Tryz.ntmps94
            go_wp2
            go_loop [4, 25] (fun n i => ∃ (k : Nat) (v : Int), k ≤ s.size ∧ i = .int .i64 k ∧ n = .int .i64 v ∧ v = numVal (s.data.toList.take k) ∧ (s.data.toList.take k).all (fun c => isDig c.toNat) = true) (fun _ i => s.size - (intOf i).toNat)
            case atStart => exact ⟨0, 0, Nat.zero_le _, rfl, rfl, rfl, rfl⟩
            case round =>
              obtain ⟨k, v, hk, rfl, rfl, hv, hall⟩ := hrel
              have HV := Lib.hid hv
              have HA := Lib.hid hall
              have hlen : (s.data.toList.take k).length = k := by rw [List.length_take, size_data]; omega
              have hbd : 0 ≤ v ∧ v < 10 ^ k := by
                have := numVal_bd _ hall
                rw [← hv, hlen] at this
                exact this
              clear hv hall
              by_cases hlt : k < s.size
              · have hbd2 : 0 ≤ v ∧ v ≤ 99999999999999999 := numBig hbd (by omega)
                have hcb := byte_bd s[k]
                clear hbd hlen
                cases hq : isDig s[k].toNat
                · have HQ := Lib.hid hq
                  have HO := Lib.hid (numOk_bad s max k hlt hq)
                  clear hq
                  go_wp2_with (go_at_call 125; refine (digit_byte _ _).mono ?_; rw [HQ.out]; rintro e w' ⟨rfl, rfl⟩)
                  go_ret2
                  exact ⟨ret_nb (numN_no HO.out).symm HO.out.symm, rfl⟩
                · have HQ := Lib.hid hq
                  have hd := isDig_bd hq
                  clear hq
                  go_wp2_with (go_at_call 125; refine (digit_byte _ _).mono ?_; rw [HQ.out]; rintro e w' ⟨rfl, rfl⟩)
                  go_round
                  case rel =>
                    refine ⟨k + 1, 10 * v + (s[k].toNat - 48), by omega, by go_num, by go_num, ?_, ?_⟩
                    · rw [take_snoc s k hlt, numVal_snoc, ← HV.out]
                    · rw [take_snoc s k hlt, List.all_append, HA.out]
                      simp [HQ.out]
                  case measure => simp [intOf]; omega
              · have hfull : s.data.toList.take k = s.data.toList := List.take_of_length_le (by rw [size_data]; omega)
                have HF := Lib.hid hfull
                have HO : Hid (numOk s.data.toList max = true) := Lib.hid (numOk_good s max (by omega) (by omega) (by omega) HZ.out (by rw [← HF.out]; exact HA.out))
                clear hfull hlen
                go_wp2
                go_ret2
                exact ⟨ret_nb (by rw [numN_yes HO.out, HV.out, HF.out]) HO.out.symm, rfl⟩

end Go.Proofs.YtlhdafinfgdlkaaGreatDoor
