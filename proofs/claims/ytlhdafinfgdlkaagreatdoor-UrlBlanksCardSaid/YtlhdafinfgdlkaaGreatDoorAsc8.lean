/- Contracts: Number's reference, Decimal and its reference. -/
import Derived.Lib.ItoaMem
import Derived.Lib.ItoaLen
import Derived.Test.YtlhdafinfgdlkaaGreatDoorProg
import Derived.Test.YtlhdafinfgdlkaaGreatDoorShelf
import Derived.Test.YtlhdafinfgdlkaaGreatDoorKit
import Derived.Test.YtlhdafinfgdlkaaGreatDoorInfo
namespace Go.Proofs.YtlhdafinfgdlkaaGreatDoor
open Go.RowKit Go.Proofs
set_option maxRecDepth 100000

theorem below_grow (w : World) (k : Nat) (os : Array Obj) : Below w.heap.size w (Sort.grow (w.drewN k) os) :=
  ⟨rfl, rfl, rfl, by
    show w.heap.size ≤ (w.heap ++ os).size
    simp, fun i hi => by
    show (w.heap ++ os)[i]? = w.heap[i]?
    rw [Array.getElem?_append_left hi]⟩

theorem tab_below {P : Program} {W W' : World} {n : String} {k : IntKind} {zs : List Int} (h : Below W.heap.size W W') (ht : Lib.TabIs P W n k zs) : Lib.TabIs P W' n k zs := by
  unfold Lib.TabIs at *
  cases hg : P.globalNamed n with
  | none => unfold World.var? at ht; rw [hg] at ht; cases ht
  | some g =>
    refine var?_below h hg ?_ ht
    rcases Nat.lt_or_ge g W.heap.size with hlt | hge
    · exact hlt
    · unfold World.var? at ht
      rw [hg] at ht
      simp [Array.getElem?_eq_none hge] at ht

theorem decimal_any (n : Int) (hn : -9223372036854775808 ≤ n ∧ n ≤ 9223372036854775807) (w : World) (htab : Lib.TabIs Tryz.prog w "internal/strconv.uint64pow10" .u64 Lib.pow10Tab) :
    Calls Tryz.prog 40 #[.int .i64 n] w fun e w' => e = .returned (.string ⟨(Lib.itoa n).toArray⟩) ∧ Below w.heap.size w w' := by
  have HT := Lib.hid htab
  clear htab
  go_enter Tryz.func40, Tryz.ntmps40
  go_wp2_with fail
  refine (Tryz.strconv_Itoa n hn.1 hn.2 w HT.out).mono ?_
  rintro e w1 ⟨rfl, k, os, rfl⟩
  have hb := below_grow w k os
  generalize Sort.grow (w.drewN k) os = w1 at hb ⊢
  go_wp2
  go_ret
  exact ⟨rfl, hb⟩

/-- The digits of a number above 0; none of 0. -/
def ddI (q : Int) : List UInt8 := if q ≤ 0 then [] else Lib.decDigits q.toNat

def ddB (q : Int) : UInt8 := UInt8.ofNat (48 + q.toNat % 10)

theorem ddI_zero {q : Int} (h : q ≤ 0) : ddI q = [] := by unfold ddI; rw [if_pos h]

theorem ddI_step {q : Int} (h : 0 < q) : ddI q = ddI (q / 10) ++ [ddB q] := by
  unfold ddI ddB
  rw [if_neg (by omega), Lib.decDigits]
  by_cases h10 : q.toNat < 10
  · rw [dif_pos h10, if_pos (by omega), Nat.mod_eq_of_lt h10]
    rfl
  · rw [dif_neg h10, if_neg (by omega), show (q / 10).toNat = q.toNat / 10 from by omega]

theorem ddB_val {q : Int} (h : 0 < q) : Value.int .u8 (48 + q % 10) = byteV (ddB q) := by
  unfold byteV ddB
  rw [UInt8.toNat_ofNat', Nat.mod_eq_of_lt (by omega)]
  congr 1
  omega

theorem ddI_len {q : Int} (h0 : 0 ≤ q) (h1 : q ≤ 9223372036854775808) : (ddI q).length ≤ 21 := by
  unfold ddI
  split
  · simp
  · have := Lib.itoa_length_le (-q) (by omega) (by omega)
    unfold Lib.itoa at this
    rw [if_pos (by omega), show (-q).natAbs = q.toNat from by omega] at this
    simp at this
    omega

theorem itoa_pos {n : Int} (h : 0 < n) : Lib.itoa n = ddI n := by unfold Lib.itoa ddI; rw [if_neg (by omega), if_neg (by omega)]

theorem itoa_minus {n : Int} (h : n < 0) : Lib.itoa n = 45 :: ddI (-n) := by
  unfold Lib.itoa ddI
  rw [if_pos h, if_neg (by omega), show (-n).toNat = n.natAbs from by omega]

theorem wrap_neg (m : Int) (h0 : 0 < m) (h1 : m ≤ 9223372036854775808) : IntKind.u64.wrap (-IntKind.u64.wrap (-m)) = m := by
  simp only [IntKind.wrap_u64]
  omega

theorem ref_decimal_neg (m : Int) (hm : 0 < m ∧ m ≤ 9223372036854775808) (w : World) :
    Calls Tryz.prog 41 #[.int .i64 (-m)] w fun e w' => e = .returned (.string ⟨(Lib.itoa (-m)).toArray⟩) ∧ Below w.heap.size w w' := by
  obtain ⟨i0, hi, hz0, hz1, hz2⟩ := info_parts Tryz.infoByte
  have hw := wrap_neg m hm.1 hm.2
  have hn0 : (-m == 0) = false := beq_eq_false_iff_ne.2 (by omega)
  have HI : Hid (Lib.itoa (-m) = [45] ++ ddI m) := Lib.hid (by rw [itoa_minus (by omega), Int.neg_neg]; rfl)
  have hdl := ddI_len (q := m) (by omega) (by omega)
  go_enter Tryz.func41, Tryz.ntmps41
  go_wp2
  go_loopw [3, 4] (fun u v wr => ∃ (q : Int) (l : List UInt8), u = .int .u64 q ∧ 0 ≤ q ∧ q ≤ m ∧ l.length ≤ 21 ∧ ddI m = ddI q ++ l.reverse ∧ wr.ownsRow w.heap.size 5 1 v l.length (l.map byteV) ∧ Below w.heap.size w wr) (fun u _ _ => (intOf u).toNat)
  case atStart => exact ⟨m, [], rfl, by omega, Int.le_refl _, by simp, by simp, World.ownsRow_nil _ _ _ _, Below.refl _ _⟩
  case round =>
    clear hw; clear hn0
    obtain ⟨q, l, rfl, hq0, hq1, hll, hdd, hown, hb⟩ := hrel
    have HD := Lib.hid hdd
    clear hdd
    have hsz := hb.size
    by_cases hq : 0 < q
    · have HS := Lib.hid (ddI_step hq)
      have HV := Lib.hid (ddB_val hq)
      have hnew : l.length + 1 ≤ 21 := by
        have := congrArg List.length HD.out
        rw [HS.out, List.length_append, List.length_append, List.length_reverse] at this
        simp at this
        omega
      have hmod : 0 ≤ q % 10 ∧ q % 10 ≤ 9 := by omega
      have hdiv : 0 ≤ q / 10 ∧ q / 10 < q := by omega
      go_wp2_with (at_builtin; refine wpList_append1 rfl _ _ 37 rfl w.heap.size 5 rfl i0 (.int .u8 0) 1 Tryz.underlying37 hi hz0 hz1 hz2 rfl _ l.length _ rfl hown rfl rfl (by omega) (by omega) hsz ?_; intro v' w' hown' hb')
      go_roundw
      case rel =>
        refine ⟨q / 10, l ++ [ddB q], rfl, hdiv.1, by omega, by simp; omega, ?_, ?_, hb.trans hb'⟩
        · rw [HD.out, HS.out]
          simp
        · rw [HV.out] at hown'
          rw [List.length_append, List.map_append]
          exact hown'
      case measure => simp [intOf]; omega
    · have HF : Hid (ddI m = l.reverse) := Lib.hid (by rw [HD.out, ddI_zero (by omega)]; rfl)
      obtain ⟨ab, cb, rfl, hsl⟩ := SliceAt.own hown
      rw [List.length_map]
      have HSL := Lib.hid hsl
      clear hsl hown hq0 hq1
      obtain ⟨w1, hw1⟩ : ∃ w1 : World, w1 = wr := ⟨_, rfl⟩
      subst hw1
      go_wp2_with (at_builtin; refine wpList_append1 rfl _ _ 37 rfl w1.heap.size 5 rfl i0 (.int .u8 0) 1 Tryz.underlying37 hi hz0 hz1 hz2 rfl _ 0 _ rfl (World.ownsRow_nil _ _ _ _) rfl rfl (by omega) (by omega) (Nat.le_refl _) ?_; intro vo wo hown0 hb0)
      go_loopw [5, 6] (fun o i w2 => ∃ (j : Nat) (ii : Int), i = .int .i64 ii ∧ ii = (j : Int) - 1 ∧ j ≤ l.length ∧ w2.ownsRow w1.heap.size 5 1 o (1 + (l.length - j)) (([45] ++ (l.drop j).reverse).map byteV) ∧ Below w1.heap.size w1 w2) (fun _ i _ => (intOf i + 1).toNat)
      case atStart => exact ⟨l.length, _, rfl, rfl, Nat.le_refl _, by rw [show 1 + (l.length - l.length) = 0 + 1 from by omega, List.drop_length]; exact hown0, hb0⟩
      case round =>
        obtain ⟨j, ii, rfl, hij, hj, hown2, hb2⟩ := hrel
        have hsz2 := hb2.size
        cases j with
        | zero =>
          have HE : Hid ([45] ++ (l.drop 0).reverse = Lib.itoa (-m)) := Lib.hid (by rw [HI.out, HF.out]; rfl)
          rw [HE.out] at hown2
          have kc := run_convert_own (P := Tryz.prog) 37 5 9 Tryz.underlying37 Tryz.underlying5 Tryz.underlying9 hown2
          have hneg : ii < 0 := by omega
          clear hij
          go_wp2
          go_ret
          exact ⟨rfl, below_then hb hb2⟩
        | succ k =>
          obtain rfl : ii = (k : Int) := by omega
          clear hij
          obtain ⟨c, hc0⟩ : ∃ c, l[k]? = some c := ⟨_, List.getElem?_eq_getElem (by omega)⟩
          have hdrop : l.drop k = c :: l.drop (k + 1) := by
            obtain ⟨hk, rfl⟩ := List.getElem?_eq_some_iff.1 hc0
            exact List.drop_eq_getElem_cons hk
          have HDR := Lib.hid hdrop
          clear hdrop
          rcases HSL.out with hnil | ⟨bb, off, rfl, hc⟩
          · exact absurd (show l.length = 0 by rw [List.map_eq_nil_iff.1 hnil]; rfl) (by omega)
          · have hc1 := hc k (.int .u8 c.toNat) (by rw [List.getElem?_map, hc0]; rfl)
            have hcell : wr.cell? ⟨bb, off + k, none⟩ = some (.int .u8 c.toNat) := (hb2.cell (block_of_cell hc1)).trans hc1
            clear hc hc1 hc0
            go_wp2_with (at_builtin; refine wpList_append1 rfl _ _ 37 rfl w1.heap.size 5 rfl i0 (.int .u8 0) 1 Tryz.underlying37 hi hz0 hz1 hz2 rfl _ _ _ rfl hown2 rfl rfl (by omega) (by omega) hsz2 ?_; intro v' w' hown' hb')
            go_roundw
            case rel =>
              refine ⟨k, _, rfl, rfl, by omega, ?_, hb2.trans hb'⟩
              rw [HDR.out, List.reverse_cons, ← List.append_assoc, List.map_append, show 1 + (l.length - k) = 1 + (l.length - (k + 1)) + 1 from by omega]
              exact hown'
            case measure => simp [intOf]

theorem ref_decimal_pos (m : Int) (hm : 0 < m ∧ m ≤ 9223372036854775807) (w : World) :
    Calls Tryz.prog 41 #[.int .i64 m] w fun e w' => e = .returned (.string ⟨(Lib.itoa (m)).toArray⟩) ∧ Below w.heap.size w w' := by
  obtain ⟨i0, hi, hz0, hz1, hz2⟩ := info_parts Tryz.infoByte
  have hn0 : (m == 0) = false := beq_eq_false_iff_ne.2 (by omega)
  have HI : Hid (Lib.itoa m = [] ++ ddI m) := Lib.hid (by rw [itoa_pos hm.1]; rfl)
  have hdl := ddI_len (q := m) (by omega) (by omega)
  go_enter Tryz.func41, Tryz.ntmps41
  go_wp2
  go_loopw [3, 4] (fun u v wr => ∃ (q : Int) (l : List UInt8), u = .int .u64 q ∧ 0 ≤ q ∧ q ≤ m ∧ l.length ≤ 21 ∧ ddI m = ddI q ++ l.reverse ∧ wr.ownsRow w.heap.size 5 1 v l.length (l.map byteV) ∧ Below w.heap.size w wr) (fun u _ _ => (intOf u).toNat)
  case atStart => exact ⟨m, [], rfl, by omega, Int.le_refl _, by simp, by simp, World.ownsRow_nil _ _ _ _, Below.refl _ _⟩
  case round =>
    clear hn0
    obtain ⟨q, l, rfl, hq0, hq1, hll, hdd, hown, hb⟩ := hrel
    have HD := Lib.hid hdd
    clear hdd
    have hsz := hb.size
    by_cases hq : 0 < q
    · have HS := Lib.hid (ddI_step hq)
      have HV := Lib.hid (ddB_val hq)
      have hnew : l.length + 1 ≤ 21 := by
        have := congrArg List.length HD.out
        rw [HS.out, List.length_append, List.length_append, List.length_reverse] at this
        simp at this
        omega
      have hmod : 0 ≤ q % 10 ∧ q % 10 ≤ 9 := by omega
      have hdiv : 0 ≤ q / 10 ∧ q / 10 < q := by omega
      go_wp2_with (at_builtin; refine wpList_append1 rfl _ _ 37 rfl w.heap.size 5 rfl i0 (.int .u8 0) 1 Tryz.underlying37 hi hz0 hz1 hz2 rfl _ l.length _ rfl hown rfl rfl (by omega) (by omega) hsz ?_; intro v' w' hown' hb')
      go_roundw
      case rel =>
        refine ⟨q / 10, l ++ [ddB q], rfl, hdiv.1, by omega, by simp; omega, ?_, ?_, hb.trans hb'⟩
        · rw [HD.out, HS.out]
          simp
        · rw [HV.out] at hown'
          rw [List.length_append, List.map_append]
          exact hown'
      case measure => simp [intOf]; omega
    · have HF : Hid (ddI m = l.reverse) := Lib.hid (by rw [HD.out, ddI_zero (by omega)]; rfl)
      obtain ⟨ab, cb, rfl, hsl⟩ := SliceAt.own hown
      rw [List.length_map]
      have HSL := Lib.hid hsl
      clear hsl hown hq0 hq1
      obtain ⟨w1, hw1⟩ : ∃ w1 : World, w1 = wr := ⟨_, rfl⟩
      subst hw1
      go_wp2
      go_loopw [5, 6] (fun o i w2 => ∃ (j : Nat) (ii : Int), i = .int .i64 ii ∧ ii = (j : Int) - 1 ∧ j ≤ l.length ∧ w2.ownsRow w1.heap.size 5 1 o (0 + (l.length - j)) (([] ++ (l.drop j).reverse).map byteV) ∧ Below w1.heap.size w1 w2) (fun _ i _ => (intOf i + 1).toNat)
      case atStart => exact ⟨l.length, _, rfl, rfl, Nat.le_refl _, by rw [show 0 + (l.length - l.length) = 0 from by omega, List.drop_length]; exact World.ownsRow_nil _ _ _ _, Below.refl _ _⟩
      case round =>
        obtain ⟨j, ii, rfl, hij, hj, hown2, hb2⟩ := hrel
        have hsz2 := hb2.size
        cases j with
        | zero =>
          have HE : Hid ([] ++ (l.drop 0).reverse = Lib.itoa (m)) := Lib.hid (by rw [HI.out, HF.out]; rfl)
          rw [HE.out] at hown2
          have kc := run_convert_own (P := Tryz.prog) 37 5 9 Tryz.underlying37 Tryz.underlying5 Tryz.underlying9 hown2
          have hneg : ii < 0 := by omega
          clear hij
          go_wp2
          go_ret
          exact ⟨rfl, below_then hb hb2⟩
        | succ k =>
          obtain rfl : ii = (k : Int) := by omega
          clear hij
          obtain ⟨c, hc0⟩ : ∃ c, l[k]? = some c := ⟨_, List.getElem?_eq_getElem (by omega)⟩
          have hdrop : l.drop k = c :: l.drop (k + 1) := by
            obtain ⟨hk, rfl⟩ := List.getElem?_eq_some_iff.1 hc0
            exact List.drop_eq_getElem_cons hk
          have HDR := Lib.hid hdrop
          clear hdrop
          rcases HSL.out with hnil | ⟨bb, off, rfl, hc⟩
          · exact absurd (show l.length = 0 by rw [List.map_eq_nil_iff.1 hnil]; rfl) (by omega)
          · have hc1 := hc k (.int .u8 c.toNat) (by rw [List.getElem?_map, hc0]; rfl)
            have hcell : wr.cell? ⟨bb, off + k, none⟩ = some (.int .u8 c.toNat) := (hb2.cell (block_of_cell hc1)).trans hc1
            clear hc hc1 hc0
            go_wp2_with (at_builtin; refine wpList_append1 rfl _ _ 37 rfl w1.heap.size 5 rfl i0 (.int .u8 0) 1 Tryz.underlying37 hi hz0 hz1 hz2 rfl _ _ _ rfl hown2 rfl rfl (by omega) (by omega) hsz2 ?_; intro v' w' hown' hb')
            go_roundw
            case rel =>
              refine ⟨k, _, rfl, rfl, by omega, ?_, hb2.trans hb'⟩
              rw [HDR.out, List.reverse_cons, ← List.append_assoc, List.map_append, show 0 + (l.length - k) = 0 + (l.length - (k + 1)) + 1 from by omega]
              exact hown'
            case measure => simp [intOf]

theorem ref_decimal_zero (w : World) :
    Calls Tryz.prog 41 #[.int .i64 0] w fun e w' => e = .returned (.string ⟨(Lib.itoa 0).toArray⟩) ∧ Below w.heap.size w w' := by
  have HI : Hid (Lib.itoa 0 = [48]) := Lib.hid (by unfold Lib.itoa; rw [if_neg (by decide)]; unfold Lib.decDigits; rfl)
  go_enter Tryz.func41, Tryz.ntmps41
  go_wp2
  go_ret
  exact ⟨by rw [HI.out]; rfl, Below.refl _ _⟩

theorem ref_decimal_any (n : Int) (hn : -9223372036854775808 ≤ n ∧ n ≤ 9223372036854775807) (w : World) :
    Calls Tryz.prog 41 #[.int .i64 n] w fun e w' => e = .returned (.string ⟨(Lib.itoa n).toArray⟩) ∧ Below w.heap.size w w' := by
  rcases (by omega : n < 0 ∨ n = 0 ∨ 0 < n) with h | h | h
  · have := ref_decimal_neg (-n) (by omega) w
    rw [Int.neg_neg] at this
    exact this
  · subst h; exact ref_decimal_zero w
  · exact ref_decimal_pos n (by omega) w

end Go.Proofs.YtlhdafinfgdlkaaGreatDoor
