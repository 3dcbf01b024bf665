/- The reference's hosts: digits, parts, numeric, part, Number, Address. -/
import Derived.Lib.Strings
import Derived.BigQuiet
import Derived.Test.YtnecjofgjbfheaaGreatDoorProg
import Derived.Test.YtnecjofgjbfheaaGreatDoorKit
import Derived.Test.YtnecjofgjbfheaaGreatDoorPlain
import Derived.Test.YtnecjofgjbfheaaGreatDoorAsc4
import Derived.Test.YtnecjofgjbfheaaGreatDoorRow
import Derived.Test.YtnecjofgjbfheaaGreatDoorPct0
import Derived.Test.YtnecjofgjbfheaaGreatDoorPct3
import Derived.Test.YtnecjofgjbfheaaGreatDoorHst0
import Derived.Test.YtnecjofgjbfheaaGreatDoorHst1
namespace Go.Proofs.YtnecjofgjbfheaaGreatDoor
open Go.RowKit Go.Proofs
set_option maxRecDepth 100000

def digP (b : Int) (l : List UInt8) : Bool := decide (l ≠ []) && allD b l

theorem rdigits_any (s : ByteArray) (b : Nat) (hb : b ≤ 16) (hs : s.size ≤ 1073741824) (w : World) :
    Calls Tryz.prog 106 #[.string s, .int .i64 (b : Int)] w fun e w' => e = .returned (.bool (digP b s.data.toList)) ∧ w' = w := by
  have hbb : (0 : Int) ≤ (b : Int) ∧ (b : Int) ≤ 16 := by omega
  go_enter Tryz.func106, Tryz.ntmps106
  go_wp2
  go_loop [5] (fun i => ∃ k : Nat, k ≤ s.size ∧ i = .int .i64 k ∧ allD b (s.data.toList.take k) = true) (fun i => s.size - (intOf i).toNat)
  case atStart => exact ⟨0, Nat.zero_le _, rfl, rfl⟩
  case round =>
    obtain ⟨k, hk, rfl, hno⟩ := hrel
    have HN := Lib.hid hno
    clear hno
    by_cases hlt : k < s.size
    · have HI : Hid (isD b s[k] = (decide (0 ≤ hexI s[k].toNat) && decide (hexI s[k].toNat < b))) := Lib.hid rfl
      have hdb := hexI_bd s[k].toNat
      have HD := Lib.hid (hex_any9 s[k] w)
      obtain ⟨D, hD⟩ : ∃ D, D = hexI s[k].toNat := ⟨_, rfl⟩
      rw [← hD] at hdb HI HD
      clear hD
      by_cases h1 : D < 0
      · have HF := Lib.hid (allD_at b s k hlt (by rw [HI.out, decide_eq_false (by omega)]; rfl))
        go_wp2_with fail
        refine HD.out.mono ?_
        rintro e w' ⟨rfl, rfl⟩
        go_wp2
        go_ret
        exact ⟨ret_bool (by unfold digP; rw [HF.out, Bool.and_false]), rfl⟩
      · by_cases h2 : (b : Int) ≤ D
        · have HF := Lib.hid (allD_at b s k hlt (by rw [HI.out, decide_eq_false (by omega : ¬ D < (b : Int)), Bool.and_false]))
          go_wp2_with fail
          refine HD.out.mono ?_
          rintro e w' ⟨rfl, rfl⟩
          go_wp2
          go_ret
          exact ⟨ret_bool (by unfold digP; rw [HF.out, Bool.and_false]), rfl⟩
        · have HF : Hid (allD b (s.data.toList.take (k + 1)) = true) := Lib.hid (by
            rw [take_snoc s k hlt, allD_snoc, HN.out, HI.out, decide_eq_true (by omega), decide_eq_true (by omega)]
            rfl)
          go_wp2_with fail
          refine HD.out.mono ?_
          rintro e w' ⟨rfl, rfl⟩
          go_wp2
          go_round
          case rel => exact ⟨k + 1, by omega, by go_num, HF.out⟩
          case measure => simp [intOf]; omega
    · have hfin := HN.out
      rw [List.take_of_length_le (by simp; omega)] at hfin
      have HF := Lib.hid hfin
      clear hfin
      by_cases h0 : s.size = 0
      · have hy := emptyYes h0
        have HR : Hid (digP b s.data.toList = false) := Lib.hid (by unfold digP; rw [nil_size h0]; rfl)
        go_wp2
        go_ret
        exact ⟨ret_bool HR.out.symm, rfl⟩
      · have hy := emptyNo h0
        have HR : Hid (digP b s.data.toList = true) := Lib.hid (by have h2 : s.data.toList ≠ [] := fun h => h0 (by rw [← size_data, h]; rfl); simp [digP, h2, HF.out])
        go_wp2
        go_ret
        exact ⟨ret_bool HR.out.symm, rfl⟩

theorem rparts_any (s : ByteArray) (hs : s.size ≤ 1073741824) (w : World) :
    Calls Tryz.prog 113 #[.string s] w fun e w' => (∃ a c, e = .returned (.slice a (partsL s.data.toList).length c) ∧ (partsL s.data.toList).length ≤ c ∧ SliceAt w' (.slice a (partsL s.data.toList).length c) ((partsL s.data.toList).map strL)) ∧ Below w.heap.size w w' := by
  have HS := Lib.hid (ref_split_any s 46 hs w)
  have hlen := splitL_len s.data.toList 46
  rw [size_data] at hlen
  have hpos := split_len s.data.toList 46
  obtain ⟨m, hm⟩ : ∃ m, (splitL s.data.toList 46).length = m + 1 := ⟨(splitL s.data.toList 46).length - 1, by omega⟩
  obtain ⟨p, hp, hlast⟩ := split_at_last _ m hm
  have hmz : m ≤ 1073741824 := by omega
  have HP : Hid (partsL s.data.toList = if 1 < m + 1 ∧ some p = some [] then (splitL s.data.toList 46).dropLast else splitL s.data.toList 46) := Lib.hid (by unfold partsL; rw [hm, hlast])
  rw [hm] at HS
  have HL := Lib.hid hm
  obtain ⟨xs, hxs⟩ : ∃ xs, xs = splitL s.data.toList 46 := ⟨_, rfl⟩
  rw [← hxs] at HS HP HL hp
  have HPP := Lib.hid hp
  clear hxs hm hlen hpos hlast hp
  go_enter Tryz.func113, Tryz.ntmps113
  go_wp2_with fail
  refine HS.out.mono ?_
  rintro e w1 ⟨⟨v, rfl, hown⟩, hb⟩
  have hsl := SliceAt.own hown
  have HB := Lib.hid hb
  obtain ⟨a, c, rfl⟩ := own_len hown
  have hcap : m + 1 ≤ c := by
    rcases hown.2 with ⟨_, h⟩ | ⟨g, cap, cur, e, _, _, hnc, _⟩
    · omega
    · injection e with _ _ e
      omega
  have hc0 : ¬ c = 0 := by omega
  have hmc : (m : Int) ≤ (c : Int) := by omega
  have hne : xs.map strL ≠ [] := by
    intro h
    have := congrArg List.length h
    rw [List.length_map, HL.out] at this
    simp at this
  obtain ⟨b, off, c2, e, hcell⟩ := SliceAt.at hsl hne
  injection e with e1 e2 e3
  subst e1 e3
  have hx := hcell m (strL p) (by rw [List.getElem?_map, HPP.out]; rfl)
  rw [strL_mk] at hx
  have HSL := Lib.hid hsl
  clear hsl hcell hne e2 hb hown
  obtain ⟨pt, hpt⟩ : ∃ pt : ByteArray, pt = ⟨p.toArray⟩ := ⟨_, rfl⟩
  rw [← hpt] at hx
  by_cases hm0 : 0 < m
  · have hz0 : (1 : Int) < (m : Int) + 1 := by omega
    have hz1 : (0 : Int) < (m : Int) := by omega
    by_cases he : p = []
    · have hpe := emptyYes (t := pt) (by rw [hpt, he]; rfl)
      clear hpt
      go_wp2
      go_ret
      have hl := HL.out
      have hh := sliceAt_less (m := m) (xs := xs.map strL) (by rw [List.length_map, hl]; exact HSL.out) (by rw [List.length_map]; omega)
      rw [if_neg hc0] at hh
      have e1 : partsL s.data.toList = xs.take m := by rw [HP.out, if_pos ⟨by omega, by rw [he]⟩, List.dropLast_eq_take, hl, Nat.add_sub_cancel]
      have e2 : (xs.take m).length = m := by rw [List.length_take, hl]; omega
      rw [e1, e2, List.map_take]
      exact ⟨⟨_, _, rfl, by omega, hh⟩, HB.out⟩
    · have hpe := emptyNo (t := pt) (by rw [hpt, mk_size]; exact fun h => he (List.eq_nil_of_length_eq_zero h))
      clear hpt
      go_wp2
      go_ret
      have e1 : partsL s.data.toList = xs := by rw [HP.out, if_neg (by rintro ⟨_, h⟩; injection h with h; exact he h)]
      rw [e1, HL.out]
      exact ⟨⟨_, _, rfl, hcap, HSL.out⟩, HB.out⟩
  · have hz0 : ¬ (1 : Int) < (m : Int) + 1 := by omega
    have hz1 : ¬ (0 : Int) < (m : Int) := by omega
    clear hpt
    go_wp2
    go_ret
    have e1 : partsL s.data.toList = xs := by rw [HP.out, if_neg (by rintro ⟨h, _⟩; omega)]
    rw [e1, HL.out]
    exact ⟨⟨_, _, rfl, hcap, HSL.out⟩, HB.out⟩

/-! the first two bytes -/
theorem xpre_at (s : ByteArray) (h : 2 ≤ s.size) : xpre s.data.toList = (decide ((s[0].toNat : Int) = 48) && (decide ((s[1].toNat : Int) = 120) || decide ((s[1].toNat : Int) = 88))) := by
  unfold xpre
  rw [size_data, getD_at s 0 (by omega), getD_at s 1 (by omega), decide_eq_true h, Bool.true_and]

theorem opre_at (s : ByteArray) (h : 2 ≤ s.size) : opre s.data.toList = decide ((s[0].toNat : Int) = 48) := by
  unfold opre
  rw [size_data, getD_at s 0 (by omega), decide_eq_true h, Bool.true_and]

theorem xpre_short (s : ByteArray) (h : ¬ 2 ≤ s.size) : xpre s.data.toList = false ∧ opre s.data.toList = false := by
  unfold xpre opre
  rw [size_data, decide_eq_false h]
  exact ⟨rfl, rfl⟩

theorem digP_ne (b : Int) {l : List UInt8} (h : l ≠ []) : digP b l = allD b l := by simp [digP, h]

theorem ne_of_size {s : ByteArray} (h : s.size ≠ 0) : s.data.toList ≠ [] := fun e => h (by rw [← size_data, e]; rfl)

theorem drop_ne {l : List UInt8} {n : Nat} (h : n < l.length) : l.drop n ≠ [] := by
  intro e
  have := congrArg List.length e
  rw [List.length_drop] at this
  simp at this
  omega

theorem last_parts (d : List UInt8) : ∃ m p, (partsL d).length = m + 1 ∧ (partsL d)[m]? = some p ∧ (partsL d).getLastD [] = p := by
  obtain ⟨m, hm⟩ : ∃ m, (partsL d).length = m + 1 := ⟨(partsL d).length - 1, by have := parts_pos d; omega⟩
  generalize partsL d = xs at hm
  refine ⟨m, xs[m]'(by omega), hm, List.getElem?_eq_getElem (by omega), ?_⟩
  have e : xs.length - 1 = m := by omega
  rw [List.getLastD_eq_getLast?, List.getLast?_eq_getElem?, e, List.getElem?_eq_getElem (by omega)]
  rfl

theorem parts_count (d : List UInt8) : (partsL d).length ≤ d.length + 1 := by
  have h1 : (partsL d).length ≤ (splitL d 46).length := by
    unfold partsL
    split
    · rw [List.length_dropLast]; omega
    · exact Nat.le_refl _
  have h2 := splitL_len d 46
  omega

theorem rnumeric_any (s : ByteArray) (hs : s.size ≤ 1073741824) (w : World) :
    Calls Tryz.prog 127 #[.string s] w fun e w' => e = .returned (.bool (numericP ((partsL s.data.toList).getLastD []))) ∧ Below w.heap.size w w' := by
  have HPT := Lib.hid (rparts_any s hs w)
  obtain ⟨m, p, hm, hp, hlast⟩ := last_parts s.data.toList
  have hmz := parts_count s.data.toList
  rw [size_data] at hmz
  have hmz2 : m ≤ 1073741824 := by omega
  have hsz : p.length ≤ 1073741824 := by
    have := parts_size (List.mem_of_getElem? hp)
    rw [size_data] at this
    omega
  rw [hlast]
  rw [hm] at HPT
  obtain ⟨ps, hps⟩ : ∃ ps, ps = partsL s.data.toList := ⟨_, rfl⟩
  rw [← hps] at HPT hp
  have HPP := Lib.hid hp
  obtain ⟨pt, hpt⟩ : ∃ pt : ByteArray, pt = ⟨p.toArray⟩ := ⟨_, rfl⟩
  have hpd : p = pt.data.toList := by rw [hpt]
  have hpz : pt.size ≤ 1073741824 := by rw [hpt]; exact hsz
  have HPE := Lib.hid hpt
  rw [hpd]
  have HD := Lib.hid (fun W => rdigits_any pt 10 (by decide) hpz W)
  clear hps hp hm hlast hmz hsz hpt hpd hs
  go_enter Tryz.func127, Tryz.ntmps127
  go_wp2_with fail
  refine HPT.out.mono ?_
  rintro e w2 ⟨⟨a, c, rfl, _, hsl⟩, hb2⟩
  have HB2 := Lib.hid hb2
  obtain ⟨b, off, rfl, hcell⟩ := sl_at hsl (j := m) (x := strL p) (by rw [List.getElem?_map, HPP.out]; rfl)
  rw [strL_mk, ← HPE.out] at hcell
  clear hb2 hsl HPT
  have i1 : (0 : Int) ≤ (m : Int) := by omega
  have i2 : (m : Int) < (m : Int) + 1 := by omega
  cases h10 : digP 10 pt.data.toList
  · rw [show ((10 : Nat) : Int) = 10 from rfl, h10] at HD
    by_cases h2 : 2 ≤ pt.size
    · have hz2 : (2 : Int) ≤ (pt.size : Int) := by omega
      have i0 : 0 < pt.size := by omega
      have j0 : 1 < pt.size := by omega
      have i0z : (0 : Int) < (pt.size : Int) := by omega
      have j0z : (1 : Int) < (pt.size : Int) := by omega
      have hx := xpre_at pt h2
      have hne := ne_of_size (s := pt) (by omega)
      have hN : numericP pt.data.toList = (xpre pt.data.toList && allD 16 (pt.data.toList.drop 2)) := by
        have h3 := digP_ne 10 hne
        rw [h10] at h3
        unfold numericP
        rw [← h3]
        simp
      by_cases c0 : (pt[0].toNat : Int) = 48
      · have b0 : ((pt[0].toNat : Int) == 48) = true := beq_iff_eq.2 c0
        by_cases c1 : (pt[1].toNat : Int) = 120 ∨ (pt[1].toNat : Int) = 88
        · have hxt : xpre pt.data.toList = true := by
            rw [hx, decide_eq_true c0]
            rcases c1 with c | c <;> simp [c]
          rw [hxt, Bool.true_and] at hN
          by_cases c2 : pt.size = 2
          · have c2z : ((pt.size : Int) == 2) = true := beq_iff_eq.2 (by omega)
            have HR : Hid (numericP pt.data.toList = true) := Lib.hid (by rw [hN, List.drop_of_length_le (by rw [size_data]; omega)]; rfl)
            have c2y : (pt.size : Int) = 2 := by omega
            clear hx hN hxt hne
            rcases c1 with c | c
            · have b1 : ((pt[1].toNat : Int) == 120) = true := beq_iff_eq.2 c
              go_wp2_with fail
              refine (HD.out _).mono ?_
              rintro e w3 ⟨rfl, rfl⟩
              go_wp2
              go_ret
              exact ⟨ret_bool HR.out.symm, HB2.out⟩
            · have b1 : ((pt[1].toNat : Int) == 120) = false := beq_eq_false_iff_ne.2 (by omega)
              have b2 : ((pt[1].toNat : Int) == 88) = true := beq_iff_eq.2 c
              go_wp2_with fail
              refine (HD.out _).mono ?_
              rintro e w3 ⟨rfl, rfl⟩
              go_wp2
              go_ret
              exact ⟨ret_bool HR.out.symm, HB2.out⟩
          · have c2z : ((pt.size : Int) == 2) = false := beq_eq_false_iff_ne.2 (by omega)
            have HDD := Lib.hid (fun W => rdigits_any (pt.extract 2 pt.size) 16 (by decide) (by rw [ByteArray.size_extract]; omega) W)
            rw [extract_tail, digP_ne _ (drop_ne (by rw [size_data]; omega)), show ((16 : Nat) : Int) = 16 from rfl, ← hN] at HDD
            clear hx hN hxt hne
            rcases c1 with c | c
            · have b1 : ((pt[1].toNat : Int) == 120) = true := beq_iff_eq.2 c
              go_wp2_with fail
              refine (HD.out _).mono ?_
              rintro e w3 ⟨rfl, rfl⟩
              go_wp2_with fail
              refine (HDD.out _).mono ?_
              rintro e w3 ⟨rfl, rfl⟩
              go_wp2
              go_ret
              exact ⟨rfl, HB2.out⟩
            · have b1 : ((pt[1].toNat : Int) == 120) = false := beq_eq_false_iff_ne.2 (by omega)
              have b2 : ((pt[1].toNat : Int) == 88) = true := beq_iff_eq.2 c
              go_wp2_with fail
              refine (HD.out _).mono ?_
              rintro e w3 ⟨rfl, rfl⟩
              go_wp2_with fail
              refine (HDD.out _).mono ?_
              rintro e w3 ⟨rfl, rfl⟩
              go_wp2
              go_ret
              exact ⟨rfl, HB2.out⟩
        · have b1 : ((pt[1].toNat : Int) == 120) = false := beq_eq_false_iff_ne.2 (fun h => c1 (.inl h))
          have b2 : ((pt[1].toNat : Int) == 88) = false := beq_eq_false_iff_ne.2 (fun h => c1 (.inr h))
          have HR : Hid (numericP pt.data.toList = false) := Lib.hid (by
            rw [hN, hx, decide_eq_false (fun h => c1 (.inl h)), decide_eq_false (fun h => c1 (.inr h))]
            simp)
          clear hx hN hne c1
          go_wp2_with fail
          refine (HD.out _).mono ?_
          rintro e w3 ⟨rfl, rfl⟩
          go_wp2
          go_ret
          exact ⟨ret_bool HR.out.symm, HB2.out⟩
      · have b0 : ((pt[0].toNat : Int) == 48) = false := beq_eq_false_iff_ne.2 c0
        have HR : Hid (numericP pt.data.toList = false) := Lib.hid (by rw [hN, hx, decide_eq_false c0]; simp)
        clear hx hN hne
        go_wp2_with fail
        refine (HD.out _).mono ?_
        rintro e w3 ⟨rfl, rfl⟩
        go_wp2
        go_ret
        exact ⟨ret_bool HR.out.symm, HB2.out⟩
    · have hz2 : ¬ (2 : Int) ≤ (pt.size : Int) := by omega
      have HR : Hid (numericP pt.data.toList = false) := Lib.hid (by
        unfold digP at h10
        unfold numericP
        rw [h10, (xpre_short pt h2).1]
        rfl)
      go_wp2_with fail
      refine (HD.out _).mono ?_
      rintro e w3 ⟨rfl, rfl⟩
      go_wp2
      go_ret
      exact ⟨ret_bool HR.out.symm, HB2.out⟩
  · rw [show ((10 : Nat) : Int) = 10 from rfl, h10] at HD
    have HR : Hid (numericP pt.data.toList = true) := Lib.hid (by
      unfold digP at h10
      unfold numericP
      rw [h10]
      rfl)
    go_wp2_with fail
    refine (HD.out _).mono ?_
    rintro e w3 ⟨rfl, rfl⟩
    go_wp2
    go_ret
    exact ⟨ret_bool HR.out.symm, HB2.out⟩

/-! part -/
def p32 (o : Option Nat) : Option Nat := match o with | none => none | some n => if n < 4294967296 then some n else none

theorem p32_big {n : Nat} (h : ¬ n < 4294967296) : p32 (some n) = none := by simp only [p32]; rw [if_neg h]

theorem p32_ok {n : Nat} (h : n < 4294967296) : p32 (some n) = some n := by simp only [p32]; rw [if_pos h]

theorem valD_mono (b : Nat) (hb : 1 ≤ b) (l : List UInt8) (k : Nat) : valD b (l.take k) ≤ valD b l := by
  have h : ∀ (r : List UInt8) (x : Nat), x ≤ r.foldl (fun n c => n * b + (hexI c.toNat).toNat) x := by
    intro r
    induction r with
    | nil => intro x; exact Nat.le_refl _
    | cons c r ih =>
      intro x
      rw [List.foldl_cons]
      have h1 : x * 1 ≤ x * b := Nat.mul_le_mul_left _ hb
      exact Nat.le_trans (by omega) (ih (x * b + (hexI c.toNat).toNat))
  unfold valD
  conv => rhs; rw [← List.take_append_drop k l, List.foldl_append]
  exact h _ _

theorem isD_at {b : Int} {s : ByteArray} (ha : allD b s.data.toList = true) (k : Nat) (h : k < s.size) : 0 ≤ hexI s[k].toNat ∧ hexI s[k].toNat < b := by
  cases hd : isD b s[k]
  · rw [allD_at b s k h hd] at ha
    exact absurd ha (by decide)
  · unfold isD at hd
    simpa [Bool.and_eq_true] using hd

theorem numP_oct {l : List UInt8} (hx : xpre l = false) (ho : opre l = true) : numP l = valP 8 (l.drop 1) ∧ 1 < l.length := by
  rw [numP_o hx ho]
  unfold opre at ho
  simp only [Bool.and_eq_true, decide_eq_true_eq] at ho
  obtain ⟨h2, h48⟩ := ho
  match l, h2 with
  | a :: b :: r, _ =>
    simp only [List.getD_cons_zero] at h48
    have : a = 48 := UInt8.toNat_inj.1 (by show a.toNat = 48; omega)
    subst this
    refine ⟨?_, by simp⟩
    show valP 8 (48 :: (b :: r)) = valP 8 (b :: r)
    have e1 : allD 8 (48 :: (b :: r)) = allD 8 (b :: r) := by
      unfold allD
      rw [List.all_cons]
      have : isD 8 48 = true := by decide
      rw [this, Bool.true_and]
    have e2 : valD 8 (48 :: (b :: r)) = valD 8 (b :: r) := by
      unfold valD
      rw [List.foldl_cons]
      rfl
    unfold valP
    rw [show ((8 : Nat) : Int) = 8 from rfl, e1, e2]

theorem rpart_d (s : ByteArray) (t : ByteArray) (T : Option Nat) (w : World) (ht : t.size ≤ 1073741824) (hne : t.data.toList ≠ []) (hT : T = valP 10 t.data.toList)
    (hst : t = s) (h2 : 2 ≤ s.size) (b0 : ((s[0].toNat : Int) == 48) = false) :
    Calls Tryz.prog 114 #[.string s] w fun e w' => e = .returned (.tuple #[.int .u64 ((optN (p32 T) : Nat) : Int), .bool (p32 T).isSome]) ∧ w' = w := by
  have HDG := Lib.hid (fun W => rdigits_any t 10 (by decide) ht W)
  subst hst
  have i0 : 0 < t.size := by omega
  have i0z : (0 : Int) < (t.size : Int) := by omega
  have h2z : (2 : Int) ≤ (t.size : Int) := by omega
  cases hd : digP 10 t.data.toList
  · rw [show ((10 : Nat) : Int) = 10 from rfl, hd] at HDG
    have HRES : Hid (p32 T = none) := Lib.hid (by rw [hT, valP_no (by rw [digP_ne 10 hne] at hd; exact hd)]; rfl)
    clear hT hne
    go_enter Tryz.func114, Tryz.ntmps114
    go_wp2_with fail
    refine (HDG.out _).mono ?_
    rintro e w3 ⟨rfl, rfl⟩
    go_wp2
    go_ret2
    exact ⟨by rw [HRES.out]; rfl, rfl⟩
  · rw [show ((10 : Nat) : Int) = 10 from rfl, hd] at HDG
    have hall : allD 10 t.data.toList = true := by rw [digP_ne 10 hne] at hd; exact hd
    have HRES : Hid (T = some (valD 10 t.data.toList)) := Lib.hid (by rw [hT]; exact valP_yes hall)
    have HALL := Lib.hid hall
    clear hT hne hd hall
    go_enter Tryz.func114, Tryz.ntmps114
    go_wp2_with fail
    refine (HDG.out _).mono ?_
    rintro e w3 ⟨rfl, rfl⟩
    clear HDG
    go_wp2_with fail
    go_loop [5, 6] (fun n i => ∃ (k N : Nat), k ≤ t.size ∧ i = .int .i64 k ∧ n = .int .u64 (N : Int) ∧ N < 4294967296 ∧ Hid (N = valD 10 (t.data.toList.take k))) (fun _ i => t.size - (intOf i).toNat)
    case atStart => exact ⟨0, 0, Nat.zero_le _, rfl, rfl, by omega, Lib.hid rfl⟩
    case round =>
      obtain ⟨k, N, hk, rfl, rfl, hN, HN⟩ := hrel
      obtain ⟨NZ, hNZ⟩ : ∃ NZ : Int, NZ = (N : Int) := ⟨_, rfl⟩
      have hNZ0 : 0 ≤ NZ ∧ NZ < 4294967296 := by omega
      rw [← hNZ]
      have HNZ := Lib.hid hNZ
      have HNN := Lib.hid hN
      clear hNZ hN
      by_cases hlt : k < t.size
      · have hin : (k : Int) < (t.size : Int) := by omega
        have hds := isD_at HALL.out k hlt
        have HX := Lib.hid (hex_any9 t[k] w3)
        obtain ⟨D, hD⟩ : ∃ D, D = hexI t[k].toNat := ⟨_, rfl⟩
        rw [← hD] at HX hds
        have hV : Hid (((valD 10 (t.data.toList.take (k + 1)) : Nat) : Int) = NZ * 10 + D) := Lib.hid (by
          rw [take_snoc t k hlt, valD_snoc, ← HN.out, HNZ.out, ← hD]
          omega)
        have hMO := Lib.hid (valD_mono 10 (by decide) t.data.toList (k + 1))
        clear hD
        by_cases hbig : NZ * 10 + D < 4294967296
        · have hb2 : ¬ (4294967296 : Int) ≤ NZ * 10 + D := by omega
          go_wp2_with fail
          refine HX.out.mono ?_
          rintro e w4 ⟨rfl, rfl⟩
          go_wp2
          go_round
          case rel => exact ⟨k + 1, (NZ * 10 + D).toNat, by omega, by go_num, by first | (congr 1; omega) | (simp; omega), by omega, Lib.hid (by have := hV.out; omega)⟩
          case measure => simp [intOf]; omega
        · have hb2 : (4294967296 : Int) ≤ NZ * 10 + D := by omega
          have HRN : Hid (p32 T = none) := Lib.hid (by
            rw [HRES.out]
            apply p32_big
            have := hV.out
            have := hMO.out
            omega)
          go_wp2_with fail
          refine HX.out.mono ?_
          rintro e w4 ⟨rfl, rfl⟩
          go_wp2
          go_ret2
          exact ⟨by rw [HRN.out]; rfl, rfl⟩
      · have hin : ¬ (k : Int) < (t.size : Int) := by omega
        have hfin := HN.out
        rw [List.take_of_length_le (by rw [size_data]; omega)] at hfin
        have HRN : Hid (p32 T = some N) := Lib.hid (by rw [HRES.out, ← hfin]; exact p32_ok HNN.out)
        clear hfin
        go_wp2
        go_ret2
        exact ⟨by rw [HRN.out, HNZ.out]; rfl, rfl⟩

theorem rpart_d1 (s : ByteArray) (t : ByteArray) (T : Option Nat) (w : World) (ht : t.size ≤ 1073741824) (hne : t.data.toList ≠ []) (hT : T = valP 10 t.data.toList)
    (hst : t = s) (h2 : ¬ 2 ≤ s.size) :
    Calls Tryz.prog 114 #[.string s] w fun e w' => e = .returned (.tuple #[.int .u64 ((optN (p32 T) : Nat) : Int), .bool (p32 T).isSome]) ∧ w' = w := by
  have HDG := Lib.hid (fun W => rdigits_any t 10 (by decide) ht W)
  subst hst
  have h2z : ¬ (2 : Int) ≤ (t.size : Int) := by omega
  cases hd : digP 10 t.data.toList
  · rw [show ((10 : Nat) : Int) = 10 from rfl, hd] at HDG
    have HRES : Hid (p32 T = none) := Lib.hid (by rw [hT, valP_no (by rw [digP_ne 10 hne] at hd; exact hd)]; rfl)
    clear hT hne
    go_enter Tryz.func114, Tryz.ntmps114
    go_wp2_with fail
    refine (HDG.out _).mono ?_
    rintro e w3 ⟨rfl, rfl⟩
    go_wp2
    go_ret2
    exact ⟨by rw [HRES.out]; rfl, rfl⟩
  · rw [show ((10 : Nat) : Int) = 10 from rfl, hd] at HDG
    have hall : allD 10 t.data.toList = true := by rw [digP_ne 10 hne] at hd; exact hd
    have HRES : Hid (T = some (valD 10 t.data.toList)) := Lib.hid (by rw [hT]; exact valP_yes hall)
    have HALL := Lib.hid hall
    clear hT hne hd hall
    go_enter Tryz.func114, Tryz.ntmps114
    go_wp2_with fail
    refine (HDG.out _).mono ?_
    rintro e w3 ⟨rfl, rfl⟩
    clear HDG
    go_wp2_with fail
    go_loop [5, 6] (fun n i => ∃ (k N : Nat), k ≤ t.size ∧ i = .int .i64 k ∧ n = .int .u64 (N : Int) ∧ N < 4294967296 ∧ Hid (N = valD 10 (t.data.toList.take k))) (fun _ i => t.size - (intOf i).toNat)
    case atStart => exact ⟨0, 0, Nat.zero_le _, rfl, rfl, by omega, Lib.hid rfl⟩
    case round =>
      obtain ⟨k, N, hk, rfl, rfl, hN, HN⟩ := hrel
      obtain ⟨NZ, hNZ⟩ : ∃ NZ : Int, NZ = (N : Int) := ⟨_, rfl⟩
      have hNZ0 : 0 ≤ NZ ∧ NZ < 4294967296 := by omega
      rw [← hNZ]
      have HNZ := Lib.hid hNZ
      have HNN := Lib.hid hN
      clear hNZ hN
      by_cases hlt : k < t.size
      · have hin : (k : Int) < (t.size : Int) := by omega
        have hds := isD_at HALL.out k hlt
        have HX := Lib.hid (hex_any9 t[k] w3)
        obtain ⟨D, hD⟩ : ∃ D, D = hexI t[k].toNat := ⟨_, rfl⟩
        rw [← hD] at HX hds
        have hV : Hid (((valD 10 (t.data.toList.take (k + 1)) : Nat) : Int) = NZ * 10 + D) := Lib.hid (by
          rw [take_snoc t k hlt, valD_snoc, ← HN.out, HNZ.out, ← hD]
          omega)
        have hMO := Lib.hid (valD_mono 10 (by decide) t.data.toList (k + 1))
        clear hD
        by_cases hbig : NZ * 10 + D < 4294967296
        · have hb2 : ¬ (4294967296 : Int) ≤ NZ * 10 + D := by omega
          go_wp2_with fail
          refine HX.out.mono ?_
          rintro e w4 ⟨rfl, rfl⟩
          go_wp2
          go_round
          case rel => exact ⟨k + 1, (NZ * 10 + D).toNat, by omega, by go_num, by first | (congr 1; omega) | (simp; omega), by omega, Lib.hid (by have := hV.out; omega)⟩
          case measure => simp [intOf]; omega
        · have hb2 : (4294967296 : Int) ≤ NZ * 10 + D := by omega
          have HRN : Hid (p32 T = none) := Lib.hid (by
            rw [HRES.out]
            apply p32_big
            have := hV.out
            have := hMO.out
            omega)
          go_wp2_with fail
          refine HX.out.mono ?_
          rintro e w4 ⟨rfl, rfl⟩
          go_wp2
          go_ret2
          exact ⟨by rw [HRN.out]; rfl, rfl⟩
      · have hin : ¬ (k : Int) < (t.size : Int) := by omega
        have hfin := HN.out
        rw [List.take_of_length_le (by rw [size_data]; omega)] at hfin
        have HRN : Hid (p32 T = some N) := Lib.hid (by rw [HRES.out, ← hfin]; exact p32_ok HNN.out)
        clear hfin
        go_wp2
        go_ret2
        exact ⟨by rw [HRN.out, HNZ.out]; rfl, rfl⟩

theorem rpart_o (s : ByteArray) (t : ByteArray) (T : Option Nat) (w : World) (ht : t.size ≤ 1073741824) (hne : t.data.toList ≠ []) (hT : T = valP 8 t.data.toList)
    (hst : s.extract 1 s.size = t) (h2 : 2 ≤ s.size) (b0 : ((s[0].toNat : Int) == 48) = true) (b1 : ((s[1].toNat : Int) == 120) = false) (b2 : ((s[1].toNat : Int) == 88) = false) :
    Calls Tryz.prog 114 #[.string s] w fun e w' => e = .returned (.tuple #[.int .u64 ((optN (p32 T) : Nat) : Int), .bool (p32 T).isSome]) ∧ w' = w := by
  have HDG := Lib.hid (fun W => rdigits_any t 8 (by decide) ht W)
  have i0 : 0 < s.size := by omega
  have i0z : (0 : Int) < (s.size : Int) := by omega
  have i1 : 1 < s.size := by omega
  have i1z : (1 : Int) < (s.size : Int) := by omega
  have i1y : (1 : Int) ≤ (s.size : Int) := by omega
  have h2z : (2 : Int) ≤ (s.size : Int) := by omega
  cases hd : digP 8 t.data.toList
  · rw [show ((8 : Nat) : Int) = 8 from rfl, hd] at HDG
    have HRES : Hid (p32 T = none) := Lib.hid (by rw [hT, valP_no (by rw [digP_ne 8 hne] at hd; exact hd)]; rfl)
    clear hT hne
    go_enter Tryz.func114, Tryz.ntmps114
    go_wp2_with fail
    refine (HDG.out _).mono ?_
    rintro e w3 ⟨rfl, rfl⟩
    go_wp2
    go_ret2
    exact ⟨by rw [HRES.out]; rfl, rfl⟩
  · rw [show ((8 : Nat) : Int) = 8 from rfl, hd] at HDG
    have hall : allD 8 t.data.toList = true := by rw [digP_ne 8 hne] at hd; exact hd
    have HRES : Hid (T = some (valD 8 t.data.toList)) := Lib.hid (by rw [hT]; exact valP_yes hall)
    have HALL := Lib.hid hall
    clear hT hne hd hall
    go_enter Tryz.func114, Tryz.ntmps114
    go_wp2_with fail
    refine (HDG.out _).mono ?_
    rintro e w3 ⟨rfl, rfl⟩
    clear HDG
    go_wp2_with fail
    go_loop [5, 6] (fun n i => ∃ (k N : Nat), k ≤ t.size ∧ i = .int .i64 k ∧ n = .int .u64 (N : Int) ∧ N < 4294967296 ∧ Hid (N = valD 8 (t.data.toList.take k))) (fun _ i => t.size - (intOf i).toNat)
    case atStart => exact ⟨0, 0, Nat.zero_le _, rfl, rfl, by omega, Lib.hid rfl⟩
    case round =>
      obtain ⟨k, N, hk, rfl, rfl, hN, HN⟩ := hrel
      obtain ⟨NZ, hNZ⟩ : ∃ NZ : Int, NZ = (N : Int) := ⟨_, rfl⟩
      have hNZ0 : 0 ≤ NZ ∧ NZ < 4294967296 := by omega
      rw [← hNZ]
      have HNZ := Lib.hid hNZ
      have HNN := Lib.hid hN
      clear hNZ hN
      by_cases hlt : k < t.size
      · have hin : (k : Int) < (t.size : Int) := by omega
        have hds := isD_at HALL.out k hlt
        have HX := Lib.hid (hex_any9 t[k] w3)
        obtain ⟨D, hD⟩ : ∃ D, D = hexI t[k].toNat := ⟨_, rfl⟩
        rw [← hD] at HX hds
        have hV : Hid (((valD 8 (t.data.toList.take (k + 1)) : Nat) : Int) = NZ * 8 + D) := Lib.hid (by
          rw [take_snoc t k hlt, valD_snoc, ← HN.out, HNZ.out, ← hD]
          omega)
        have hMO := Lib.hid (valD_mono 8 (by decide) t.data.toList (k + 1))
        clear hD
        by_cases hbig : NZ * 8 + D < 4294967296
        · have hb2 : ¬ (4294967296 : Int) ≤ NZ * 8 + D := by omega
          go_wp2_with fail
          refine HX.out.mono ?_
          rintro e w4 ⟨rfl, rfl⟩
          go_wp2
          go_round
          case rel => exact ⟨k + 1, (NZ * 8 + D).toNat, by omega, by go_num, by first | (congr 1; omega) | (simp; omega), by omega, Lib.hid (by have := hV.out; omega)⟩
          case measure => simp [intOf]; omega
        · have hb2 : (4294967296 : Int) ≤ NZ * 8 + D := by omega
          have HRN : Hid (p32 T = none) := Lib.hid (by
            rw [HRES.out]
            apply p32_big
            have := hV.out
            have := hMO.out
            omega)
          go_wp2_with fail
          refine HX.out.mono ?_
          rintro e w4 ⟨rfl, rfl⟩
          go_wp2
          go_ret2
          exact ⟨by rw [HRN.out]; rfl, rfl⟩
      · have hin : ¬ (k : Int) < (t.size : Int) := by omega
        have hfin := HN.out
        rw [List.take_of_length_le (by rw [size_data]; omega)] at hfin
        have HRN : Hid (p32 T = some N) := Lib.hid (by rw [HRES.out, ← hfin]; exact p32_ok HNN.out)
        clear hfin
        go_wp2
        go_ret2
        exact ⟨by rw [HRN.out, HNZ.out]; rfl, rfl⟩

theorem rpart_x (s : ByteArray) (t : ByteArray) (T : Option Nat) (w : World) (ht : t.size ≤ 1073741824) (hne : t.data.toList ≠ []) (hT : T = valP 16 t.data.toList)
    (hst : s.extract 2 s.size = t) (h2 : 2 ≤ s.size) (b0 : ((s[0].toNat : Int) == 48) = true) (b1 : ((s[1].toNat : Int) == 120) = true) :
    Calls Tryz.prog 114 #[.string s] w fun e w' => e = .returned (.tuple #[.int .u64 ((optN (p32 T) : Nat) : Int), .bool (p32 T).isSome]) ∧ w' = w := by
  have HDG := Lib.hid (fun W => rdigits_any t 16 (by decide) ht W)
  have i0 : 0 < s.size := by omega
  have i0z : (0 : Int) < (s.size : Int) := by omega
  have i1 : 1 < s.size := by omega
  have i1z : (1 : Int) < (s.size : Int) := by omega
  have h2z : (2 : Int) ≤ (s.size : Int) := by omega
  have hse := emptyNo (t := t) (fun h => hne (nil_size h))
  cases hd : digP 16 t.data.toList
  · rw [show ((16 : Nat) : Int) = 16 from rfl, hd] at HDG
    have HRES : Hid (p32 T = none) := Lib.hid (by rw [hT, valP_no (by rw [digP_ne 16 hne] at hd; exact hd)]; rfl)
    clear hT hne
    go_enter Tryz.func114, Tryz.ntmps114
    go_wp2_with fail
    refine (HDG.out _).mono ?_
    rintro e w3 ⟨rfl, rfl⟩
    go_wp2
    go_ret2
    exact ⟨by rw [HRES.out]; rfl, rfl⟩
  · rw [show ((16 : Nat) : Int) = 16 from rfl, hd] at HDG
    have hall : allD 16 t.data.toList = true := by rw [digP_ne 16 hne] at hd; exact hd
    have HRES : Hid (T = some (valD 16 t.data.toList)) := Lib.hid (by rw [hT]; exact valP_yes hall)
    have HALL := Lib.hid hall
    clear hT hne hd hall
    go_enter Tryz.func114, Tryz.ntmps114
    go_wp2_with fail
    refine (HDG.out _).mono ?_
    rintro e w3 ⟨rfl, rfl⟩
    clear HDG
    go_wp2_with fail
    go_loop [5, 6] (fun n i => ∃ (k N : Nat), k ≤ t.size ∧ i = .int .i64 k ∧ n = .int .u64 (N : Int) ∧ N < 4294967296 ∧ Hid (N = valD 16 (t.data.toList.take k))) (fun _ i => t.size - (intOf i).toNat)
    case atStart => exact ⟨0, 0, Nat.zero_le _, rfl, rfl, by omega, Lib.hid rfl⟩
    case round =>
      obtain ⟨k, N, hk, rfl, rfl, hN, HN⟩ := hrel
      obtain ⟨NZ, hNZ⟩ : ∃ NZ : Int, NZ = (N : Int) := ⟨_, rfl⟩
      have hNZ0 : 0 ≤ NZ ∧ NZ < 4294967296 := by omega
      rw [← hNZ]
      have HNZ := Lib.hid hNZ
      have HNN := Lib.hid hN
      clear hNZ hN
      by_cases hlt : k < t.size
      · have hin : (k : Int) < (t.size : Int) := by omega
        have hds := isD_at HALL.out k hlt
        have HX := Lib.hid (hex_any9 t[k] w3)
        obtain ⟨D, hD⟩ : ∃ D, D = hexI t[k].toNat := ⟨_, rfl⟩
        rw [← hD] at HX hds
        have hV : Hid (((valD 16 (t.data.toList.take (k + 1)) : Nat) : Int) = NZ * 16 + D) := Lib.hid (by
          rw [take_snoc t k hlt, valD_snoc, ← HN.out, HNZ.out, ← hD]
          omega)
        have hMO := Lib.hid (valD_mono 16 (by decide) t.data.toList (k + 1))
        clear hD
        by_cases hbig : NZ * 16 + D < 4294967296
        · have hb2 : ¬ (4294967296 : Int) ≤ NZ * 16 + D := by omega
          go_wp2_with fail
          refine HX.out.mono ?_
          rintro e w4 ⟨rfl, rfl⟩
          go_wp2
          go_round
          case rel => exact ⟨k + 1, (NZ * 16 + D).toNat, by omega, by go_num, by first | (congr 1; omega) | (simp; omega), by omega, Lib.hid (by have := hV.out; omega)⟩
          case measure => simp [intOf]; omega
        · have hb2 : (4294967296 : Int) ≤ NZ * 16 + D := by omega
          have HRN : Hid (p32 T = none) := Lib.hid (by
            rw [HRES.out]
            apply p32_big
            have := hV.out
            have := hMO.out
            omega)
          go_wp2_with fail
          refine HX.out.mono ?_
          rintro e w4 ⟨rfl, rfl⟩
          go_wp2
          go_ret2
          exact ⟨by rw [HRN.out]; rfl, rfl⟩
      · have hin : ¬ (k : Int) < (t.size : Int) := by omega
        have hfin := HN.out
        rw [List.take_of_length_le (by rw [size_data]; omega)] at hfin
        have HRN : Hid (p32 T = some N) := Lib.hid (by rw [HRES.out, ← hfin]; exact p32_ok HNN.out)
        clear hfin
        go_wp2
        go_ret2
        exact ⟨by rw [HRN.out, HNZ.out]; rfl, rfl⟩

theorem rpart_y (s : ByteArray) (t : ByteArray) (T : Option Nat) (w : World) (ht : t.size ≤ 1073741824) (hne : t.data.toList ≠ []) (hT : T = valP 16 t.data.toList)
    (hst : s.extract 2 s.size = t) (h2 : 2 ≤ s.size) (b0 : ((s[0].toNat : Int) == 48) = true) (b1 : ((s[1].toNat : Int) == 120) = false) (b2 : ((s[1].toNat : Int) == 88) = true) :
    Calls Tryz.prog 114 #[.string s] w fun e w' => e = .returned (.tuple #[.int .u64 ((optN (p32 T) : Nat) : Int), .bool (p32 T).isSome]) ∧ w' = w := by
  have HDG := Lib.hid (fun W => rdigits_any t 16 (by decide) ht W)
  have i0 : 0 < s.size := by omega
  have i0z : (0 : Int) < (s.size : Int) := by omega
  have i1 : 1 < s.size := by omega
  have i1z : (1 : Int) < (s.size : Int) := by omega
  have h2z : (2 : Int) ≤ (s.size : Int) := by omega
  have hse := emptyNo (t := t) (fun h => hne (nil_size h))
  cases hd : digP 16 t.data.toList
  · rw [show ((16 : Nat) : Int) = 16 from rfl, hd] at HDG
    have HRES : Hid (p32 T = none) := Lib.hid (by rw [hT, valP_no (by rw [digP_ne 16 hne] at hd; exact hd)]; rfl)
    clear hT hne
    go_enter Tryz.func114, Tryz.ntmps114
    go_wp2_with fail
    refine (HDG.out _).mono ?_
    rintro e w3 ⟨rfl, rfl⟩
    go_wp2
    go_ret2
    exact ⟨by rw [HRES.out]; rfl, rfl⟩
  · rw [show ((16 : Nat) : Int) = 16 from rfl, hd] at HDG
    have hall : allD 16 t.data.toList = true := by rw [digP_ne 16 hne] at hd; exact hd
    have HRES : Hid (T = some (valD 16 t.data.toList)) := Lib.hid (by rw [hT]; exact valP_yes hall)
    have HALL := Lib.hid hall
    clear hT hne hd hall
    go_enter Tryz.func114, Tryz.ntmps114
    go_wp2_with fail
    refine (HDG.out _).mono ?_
    rintro e w3 ⟨rfl, rfl⟩
    clear HDG
    go_wp2_with fail
    go_loop [5, 6] (fun n i => ∃ (k N : Nat), k ≤ t.size ∧ i = .int .i64 k ∧ n = .int .u64 (N : Int) ∧ N < 4294967296 ∧ Hid (N = valD 16 (t.data.toList.take k))) (fun _ i => t.size - (intOf i).toNat)
    case atStart => exact ⟨0, 0, Nat.zero_le _, rfl, rfl, by omega, Lib.hid rfl⟩
    case round =>
      obtain ⟨k, N, hk, rfl, rfl, hN, HN⟩ := hrel
      obtain ⟨NZ, hNZ⟩ : ∃ NZ : Int, NZ = (N : Int) := ⟨_, rfl⟩
      have hNZ0 : 0 ≤ NZ ∧ NZ < 4294967296 := by omega
      rw [← hNZ]
      have HNZ := Lib.hid hNZ
      have HNN := Lib.hid hN
      clear hNZ hN
      by_cases hlt : k < t.size
      · have hin : (k : Int) < (t.size : Int) := by omega
        have hds := isD_at HALL.out k hlt
        have HX := Lib.hid (hex_any9 t[k] w3)
        obtain ⟨D, hD⟩ : ∃ D, D = hexI t[k].toNat := ⟨_, rfl⟩
        rw [← hD] at HX hds
        have hV : Hid (((valD 16 (t.data.toList.take (k + 1)) : Nat) : Int) = NZ * 16 + D) := Lib.hid (by
          rw [take_snoc t k hlt, valD_snoc, ← HN.out, HNZ.out, ← hD]
          omega)
        have hMO := Lib.hid (valD_mono 16 (by decide) t.data.toList (k + 1))
        clear hD
        by_cases hbig : NZ * 16 + D < 4294967296
        · have hb2 : ¬ (4294967296 : Int) ≤ NZ * 16 + D := by omega
          go_wp2_with fail
          refine HX.out.mono ?_
          rintro e w4 ⟨rfl, rfl⟩
          go_wp2
          go_round
          case rel => exact ⟨k + 1, (NZ * 16 + D).toNat, by omega, by go_num, by first | (congr 1; omega) | (simp; omega), by omega, Lib.hid (by have := hV.out; omega)⟩
          case measure => simp [intOf]; omega
        · have hb2 : (4294967296 : Int) ≤ NZ * 16 + D := by omega
          have HRN : Hid (p32 T = none) := Lib.hid (by
            rw [HRES.out]
            apply p32_big
            have := hV.out
            have := hMO.out
            omega)
          go_wp2_with fail
          refine HX.out.mono ?_
          rintro e w4 ⟨rfl, rfl⟩
          go_wp2
          go_ret2
          exact ⟨by rw [HRN.out]; rfl, rfl⟩
      · have hin : ¬ (k : Int) < (t.size : Int) := by omega
        have hfin := HN.out
        rw [List.take_of_length_le (by rw [size_data]; omega)] at hfin
        have HRN : Hid (p32 T = some N) := Lib.hid (by rw [HRES.out, ← hfin]; exact p32_ok HNN.out)
        clear hfin
        go_wp2
        go_ret2
        exact ⟨by rw [HRN.out, HNZ.out]; rfl, rfl⟩

theorem rpart_any (s : ByteArray) (hs : s.size ≤ 1073741824) (w : World) :
    Calls Tryz.prog 114 #[.string s] w fun e w' => e = .returned (.tuple #[.int .u64 ((optN (p32 (numP s.data.toList)) : Nat) : Int), .bool (p32 (numP s.data.toList)).isSome]) ∧ w' = w := by
  by_cases h2 : 2 ≤ s.size
  · have hne := ne_of_size (s := s) (by omega)
    have hx := xpre_at s h2
    have ho := opre_at s h2
    by_cases c0 : (s[0].toNat : Int) = 48
    · have b0 : ((s[0].toNat : Int) == 48) = true := beq_iff_eq.2 c0
      by_cases c1 : (s[1].toNat : Int) = 120 ∨ (s[1].toNat : Int) = 88
      · have hxt : xpre s.data.toList = true := by
          rw [hx, decide_eq_true c0]
          rcases c1 with c | c <;> simp [c]
        by_cases h3 : s.size = 2
        · have hT : p32 (numP s.data.toList) = some 0 := by
            rw [numP_x hxt, List.drop_of_length_le (by rw [size_data]; omega)]
            rfl
          rw [hT]
          have i0 : 0 < s.size := by omega
          have i0z : (0 : Int) < (s.size : Int) := by omega
          have i1 : 1 < s.size := by omega
          have i1z : (1 : Int) < (s.size : Int) := by omega
          have h2z : (2 : Int) ≤ (s.size : Int) := by omega
          obtain ⟨t, ht⟩ : ∃ t, s.extract 2 s.size = t := ⟨_, rfl⟩
          have hse := emptyYes (t := t) (by rw [← ht, ByteArray.size_extract]; omega)
          clear hx ho hxt hT h3 hne
          rcases c1 with c | c
          · have b1 : ((s[1].toNat : Int) == 120) = true := beq_iff_eq.2 c
            go_enter Tryz.func114, Tryz.ntmps114
            go_wp2
            go_ret2
            exact ⟨rfl, rfl⟩
          · have b1 : ((s[1].toNat : Int) == 120) = false := beq_eq_false_iff_ne.2 (by omega)
            have b2 : ((s[1].toNat : Int) == 88) = true := beq_iff_eq.2 c
            go_enter Tryz.func114, Tryz.ntmps114
            go_wp2
            go_ret2
            exact ⟨rfl, rfl⟩
        · have htd : (s.extract 2 s.size).data.toList = s.data.toList.drop 2 := extract_tail _ _
          have hne2 : (s.extract 2 s.size).data.toList ≠ [] := by rw [htd]; exact drop_ne (by rw [size_data]; omega)
          have hT : numP s.data.toList = valP 16 (s.extract 2 s.size).data.toList := by rw [htd]; exact numP_x hxt
          have hsz : (s.extract 2 s.size).size ≤ 1073741824 := by rw [ByteArray.size_extract]; omega
          rcases c1 with c | c
          · exact rpart_x s _ _ w hsz hne2 hT rfl h2 b0 (beq_iff_eq.2 c)
          · exact rpart_y s _ _ w hsz hne2 hT rfl h2 b0 (beq_eq_false_iff_ne.2 (by omega)) (beq_iff_eq.2 c)
      · have hxf : xpre s.data.toList = false := by
          rw [hx, decide_eq_false (fun h => c1 (.inl h)), decide_eq_false (fun h => c1 (.inr h))]
          simp
        have hot : opre s.data.toList = true := by rw [ho]; exact decide_eq_true c0
        obtain ⟨hT, hl⟩ := numP_oct hxf hot
        have htd : (s.extract 1 s.size).data.toList = s.data.toList.drop 1 := extract_tail _ _
        rw [← htd] at hT
        exact rpart_o s _ _ w (by rw [ByteArray.size_extract]; omega) (by rw [htd]; exact drop_ne hl) hT rfl h2 b0 (beq_eq_false_iff_ne.2 (fun h => c1 (.inl h))) (beq_eq_false_iff_ne.2 (fun h => c1 (.inr h)))
    · have hxf : xpre s.data.toList = false := by rw [hx, decide_eq_false c0]; rfl
      have hof : opre s.data.toList = false := by rw [ho]; exact decide_eq_false c0
      exact rpart_d s s _ w hs hne (numP_d hxf hof hne) rfl h2 (beq_eq_false_iff_ne.2 c0)
  · obtain ⟨hxf, hof⟩ := xpre_short s h2
    by_cases h0 : s.size = 0
    · have he := nil_size h0
      have hT : p32 (numP s.data.toList) = none := by rw [he]; rfl
      have HD := Lib.hid (rdigits_any s 10 (by decide) hs w)
      have hd : digP 10 s.data.toList = false := by rw [he]; rfl
      rw [show ((10 : Nat) : Int) = 10 from rfl, hd] at HD
      rw [hT]
      have h2z : ¬ (2 : Int) ≤ (s.size : Int) := by omega
      clear hxf hof he hT hd h0
      go_enter Tryz.func114, Tryz.ntmps114
      go_wp2_with fail
      refine HD.out.mono ?_
      rintro e w3 ⟨rfl, rfl⟩
      go_wp2
      go_ret2
      exact ⟨rfl, rfl⟩
    · have hne := ne_of_size h0
      exact rpart_d1 s s _ w hs hne (numP_d hxf hof hne) rfl h2

theorem pow_wrap5 : ∀ m ≤ 4, 1 ≤ m → IntKind.u64.wrap ((2 : Int) ^ (8 * (5 - m))) = ((256 ^ (5 - m) : Nat) : Int) := by decide

theorem shift_fits (n j : Nat) (hn : n ≤ 255) : IntKind.u64.wrap ((n : Int) * 2 ^ (8 * (3 - j))) = ((n * 256 ^ (3 - j) : Nat) : Int) ∧ n * 256 ^ (3 - j) < 4294967296 := by
  have h1 : 256 ^ (3 - j) ≤ 16777216 := Nat.pow_le_pow_right (by decide : 256 > 0) (by omega : 3 - j ≤ 3)
  have h2 : n * 256 ^ (3 - j) ≤ 255 * 16777216 := Nat.mul_le_mul hn h1
  refine ⟨?_, by omega⟩
  have e : ((n * 256 ^ (3 - j) : Nat) : Int) = (n : Int) * 2 ^ (8 * (3 - j)) := by rw [pow_two]; simp
  rw [← e, IntKind.wrap_u64]
  omega

theorem last_now {ps : List (List UInt8)} {p : List UInt8} {j h : Nat} {T : Option Nat} (hl : ps.length = j + 1) (hp : ps[j]? = some p) (ht : T = (sumP (4 - j) (ps.drop j)).map (h * 256 ^ (4 - j) + ·)) :
    T = (match numP p with | none => none | some n => if n < 256 ^ (4 - j) then some (h * 256 ^ (4 - j) + n) else none) := by
  obtain ⟨hj, rfl⟩ := List.getElem?_eq_some_iff.1 hp
  rw [ht, List.drop_eq_getElem_cons hj, List.drop_of_length_le (by omega), sumP_one]
  cases numP ps[j] with
  | none => rfl
  | some n =>
    simp only
    split <;> rfl

theorem drop_ne2 {l : List (List UInt8)} {n : Nat} (h : n < l.length) : l.drop n ≠ [] := by
  intro e
  have := congrArg List.length e
  rw [List.length_drop] at this
  simp at this
  omega

theorem more_now {ps : List (List UInt8)} {p : List UInt8} {j h : Nat} {T : Option Nat} (hl : j + 1 < ps.length) (hp : ps[j]? = some p) (ht : T = (sumP (4 - j) (ps.drop j)).map (h * 256 ^ (4 - j) + ·)) :
    T = (match numP p with | none => none | some n => if n ≤ 255 then ((sumP (4 - j - 1) (ps.drop (j + 1))).map (n * 256 ^ (4 - j - 1) + ·)).map (h * 256 ^ (4 - j) + ·) else none) := by
  obtain ⟨hj, rfl⟩ := List.getElem?_eq_some_iff.1 hp
  rw [ht, List.drop_eq_getElem_cons hj, sumP_head _ _ (drop_ne2 hl)]
  cases numP ps[j] with
  | none => rfl
  | some n =>
    simp only
    split <;> rfl

def NumI (ps : List (List UInt8)) (T : Option Nat) (m k N : Nat) : Prop :=
  (k < m → ∃ h, h < 256 ^ k ∧ N = h * 256 ^ (4 - k) ∧ T = (sumP (4 - k) (ps.drop k)).map (h * 256 ^ (4 - k) + ·)) ∧ (k = m → T = some N) ∧ N < 4294967296

theorem numI_bad {ps : List (List UInt8)} {T : Option Nat} {m k N : Nat} {p : List UInt8} (h : NumI ps T m k N) (hl : ps.length = m) (hk : k < m) (_hm : m ≤ 4) (hp : ps[k]? = some p) (hn : p32 (numP p) = none) : T = none := by
  obtain ⟨x, _, _, ht⟩ := h.1 hk
  have h4 : 256 ^ (4 - k) ≤ 4294967296 := pow_le4 k
  by_cases he : ps.length = k + 1
  · rw [last_now he hp ht]
    cases hc : numP p with
    | none => rfl
    | some n =>
      simp only
      rw [if_neg]
      intro hlt
      rw [hc, p32_ok (by omega)] at hn
      exact absurd hn (by simp)
  · rw [more_now (by omega) hp ht]
    cases hc : numP p with
    | none => rfl
    | some n =>
      simp only
      rw [if_neg]
      intro hlt
      rw [hc, p32_ok (by omega)] at hn
      exact absurd hn (by simp)

theorem p32_some {o : Option Nat} {n : Nat} (h : p32 o = some n) : o = some n ∧ n < 4294967296 := by
  cases o with
  | none => simp [p32] at h
  | some x =>
    simp only [p32] at h
    split at h
    · injection h with h
      subst h
      exact ⟨rfl, by assumption⟩
    · exact absurd h (by simp)

theorem numI_big {ps : List (List UInt8)} {T : Option Nat} {m k N n : Nat} {p : List UInt8} (h : NumI ps T m k N) (hl : ps.length = m) (hk : k + 1 < m) (hp : ps[k]? = some p) (hn : numP p = some n) (hb : ¬ n ≤ 255) : T = none := by
  obtain ⟨x, _, _, ht⟩ := h.1 (by omega)
  rw [more_now (by omega) hp ht, hn]
  simp only
  rw [if_neg hb]

theorem numI_last {ps : List (List UInt8)} {T : Option Nat} {m k N n : Nat} {p : List UInt8} (h : NumI ps T m k N) (hl : ps.length = m) (hk : k + 1 = m) (hp : ps[k]? = some p) (hn : numP p = some n) (hb : ¬ n < 256 ^ (5 - m)) : T = none := by
  obtain ⟨x, _, _, ht⟩ := h.1 (by omega)
  rw [last_now (by omega) hp ht, hn]
  simp only
  rw [if_neg]
  have : 4 - k = 5 - m := by omega
  rw [this]
  exact hb

theorem numI_end {ps : List (List UInt8)} {T : Option Nat} {m k N n : Nat} {p : List UInt8} (h : NumI ps T m k N) (hl : ps.length = m) (hk : k + 1 = m) (_hm : m ≤ 4) (hp : ps[k]? = some p) (hn : numP p = some n) (hb : n < 256 ^ (5 - m)) : NumI ps T m (k + 1) (N + n) := by
  obtain ⟨x, hx, hN, ht⟩ := h.1 (by omega)
  have e : 4 - k = 5 - m := by omega
  have hT := last_now (by omega) hp ht
  rw [hn] at hT
  simp only at hT
  rw [if_pos (by rw [e]; exact hb)] at hT
  refine ⟨fun h => by omega, fun _ => by rw [hT, hN], ?_⟩
  have hall : 256 ^ k * 256 ^ (4 - k) = 4294967296 := by
    rw [← Nat.pow_add]
    have : k + (4 - k) = 4 := by omega
    rw [this]
  have h1 : (x + 1) * 256 ^ (4 - k) ≤ 4294967296 := by rw [← hall]; exact Nat.mul_le_mul_right _ hx
  rw [Nat.add_mul, Nat.one_mul, e] at h1
  rw [e] at hN
  omega

theorem numI_next {ps : List (List UInt8)} {T : Option Nat} {m k N n : Nat} {p : List UInt8} (h : NumI ps T m k N) (hl : ps.length = m) (hk : k + 1 < m) (hm : m ≤ 4) (hp : ps[k]? = some p) (hn : numP p = some n) (hb : n ≤ 255) : NumI ps T m (k + 1) (N + n * 256 ^ (3 - k)) := by
  obtain ⟨x, hx, hN, ht⟩ := h.1 (by omega)
  have hT := more_now (by omega) hp ht
  rw [hn] at hT
  simp only at hT
  rw [if_pos hb, Option.map_map] at hT
  have e : 4 - k - 1 = 4 - (k + 1) := by omega
  have e3 : 3 - k = 4 - (k + 1) := by omega
  have e2 : 256 ^ (4 - k) = 256 * 256 ^ (4 - (k + 1)) := by
    have : 4 - k = (4 - (k + 1)) + 1 := by omega
    rw [this, Nat.pow_succ, Nat.mul_comm]
  have hV : N + n * 256 ^ (3 - k) = (x * 256 + n) * 256 ^ (4 - (k + 1)) := by rw [hN, e3, e2, Nat.add_mul, Nat.mul_assoc]
  have hx2 : x * 256 + n < 256 ^ (k + 1) := by rw [Nat.pow_succ]; omega
  refine ⟨fun _ => ⟨x * 256 + n, hx2, hV, ?_⟩, fun h => by omega, ?_⟩
  · rw [hT, e, e2]
    congr 1
    funext y
    simp only [Function.comp_apply, Nat.add_mul, Nat.mul_assoc]
    omega
  · have hall : 256 ^ (k + 1) * 256 ^ (4 - (k + 1)) = 4294967296 := by
      rw [← Nat.pow_add]
      have : k + 1 + (4 - (k + 1)) = 4 := by omega
      rw [this]
    have hp0 : 0 < 256 ^ (4 - (k + 1)) := Nat.pow_pos (by decide)
    have h1 : (x * 256 + n + 1) * 256 ^ (4 - (k + 1)) ≤ 4294967296 := by rw [← hall]; exact Nat.mul_le_mul_right _ hx2
    rw [Nat.add_mul, Nat.one_mul] at h1
    rw [hV]
    omega

set_option maxHeartbeats 1000000 in
theorem rnumber_any (s : ByteArray) (hs : s.size ≤ 1073741824) (w : World) :
    Calls Tryz.prog 90 #[.string s] w fun e w' => e = .returned (.tuple #[.int .u32 ((optN (numberP s.data.toList) : Nat) : Int), .bool (numberP s.data.toList).isSome]) ∧ Below w.heap.size w w' := by
  have HPT := Lib.hid (rparts_any s hs w)
  have hpos := parts_pos s.data.toList
  have hmz := parts_count s.data.toList
  rw [size_data] at hmz
  have HE : Hid (∀ p ∈ partsL s.data.toList, p.length ≤ 1073741824) := Lib.hid (fun p hp => by have := parts_size hp; rw [size_data] at this; omega)
  have hN : numberP s.data.toList = addrP (partsL s.data.toList) := rfl
  rw [hN]
  obtain ⟨ps, hps⟩ : ∃ ps, ps = partsL s.data.toList := ⟨_, rfl⟩
  rw [← hps] at HPT HE hpos hmz ⊢
  obtain ⟨m, hm⟩ : ∃ m, ps.length = m := ⟨_, rfl⟩
  rw [hm] at HPT hpos hmz
  have HM := Lib.hid hm
  have hmb : m ≤ 1073741825 := by omega
  clear hN hps hm hs hmz
  go_enter Tryz.func90, Tryz.ntmps90
  go_wp2_with fail
  refine HPT.out.mono ?_
  rintro e w2 ⟨⟨a, c, rfl, _, hsl⟩, hb2⟩
  have HB2 := Lib.hid hb2
  have HSL := Lib.hid hsl
  clear hb2 hsl HPT
  by_cases h4 : m ≤ 4
  · have h4z : ¬ (4 : Int) < (m : Int) := by omega
    obtain ⟨T, hT⟩ : ∃ T, T = sumP 4 ps := ⟨_, rfl⟩
    have HR : Hid (addrP ps = T) := Lib.hid (by unfold addrP; rw [if_pos (by rw [HM.out]; exact h4), hT])
    have HI0 : Hid (NumI ps T m 0 0) := Lib.hid ⟨fun _ => ⟨0, by decide, by simp, by rw [hT]; simp⟩, fun h => by omega, by decide⟩
    have HPW := Lib.hid (pow_wrap5 m h4 hpos)
    clear hT
    go_wp2_with fail
    go_loop [5, 6] (fun v i => ∃ (k N : Nat), k ≤ m ∧ i = .int .i64 k ∧ v = .int .u64 (N : Int) ∧ Hid (NumI ps T m k N)) (fun _ i => m - (intOf i).toNat)
    case atStart => exact ⟨0, 0, Nat.zero_le _, rfl, rfl, HI0⟩
    case round =>
      clear HI0
      obtain ⟨k, N, hk, rfl, rfl, HI⟩ := hrel
      have hN := HI.out.2.2
      obtain ⟨NZ, hNZ⟩ : ∃ NZ : Int, NZ = (N : Int) := ⟨_, rfl⟩
      have hNZ0 : 0 ≤ NZ ∧ NZ < 4294967296 := by omega
      rw [← hNZ]
      have HNZ := Lib.hid hNZ
      clear hN hNZ
      by_cases hlt : k < m
      · have hlz : (k : Int) < (m : Int) := by omega
        obtain ⟨p, hp⟩ : ∃ p, ps[k]? = some p := ⟨_, List.getElem?_eq_getElem (by rw [HM.out]; exact hlt)⟩
        obtain ⟨b, off, rfl, hcell⟩ := sl_at HSL.out (j := k) (x := strL p) (by rw [List.getElem?_map, hp]; rfl)
        have hpp := HE.out p (List.mem_of_getElem? hp)
        obtain ⟨pt, hpt⟩ : ∃ pt : ByteArray, pt = ⟨p.toArray⟩ := ⟨_, rfl⟩
        have HPV := Lib.hid (fun W => rpart_any pt (by rw [hpt]; exact hpp) W)
        have e1 : pt.data.toList = p := by rw [hpt]
        rw [e1] at HPV
        rw [strL_mk, ← hpt] at hcell
        have HPP := Lib.hid hp
        clear hpt e1 hp hpp
        cases hO : p32 (numP p) with
        | none =>
          rw [hO] at HPV
          have HNO := Lib.hid (numI_bad HI.out HM.out hlt h4 HPP.out hO)
          have HPV2 : Hid (∀ W, Calls Tryz.prog 114 #[.string pt] W fun e w' => e = .returned (.tuple #[.int .u64 0, .bool false]) ∧ w' = W) := HPV
          clear HPV hO
          go_wp2_with fail
          refine (HPV2.out _).mono ?_
          rintro e w3 ⟨rfl, rfl⟩
          go_wp2
          go_ret2
          exact ⟨by rw [HR.out, HNO.out]; rfl, HB2.out⟩
        | some n =>
          rw [hO] at HPV
          obtain ⟨hn, hn32⟩ := p32_some hO
          obtain ⟨z, hz⟩ : ∃ z : Int, z = (n : Int) := ⟨_, rfl⟩
          have HPV2 : Hid (∀ W, Calls Tryz.prog 114 #[.string pt] W fun e w' => e = .returned (.tuple #[.int .u64 z, .bool true]) ∧ w' = W) := Lib.hid (by rw [hz]; exact HPV.out)
          have hz0 : 0 ≤ z ∧ z < 4294967296 := by omega
          have HZ := Lib.hid hz
          have HNP := Lib.hid hn
          clear HPV hO hn hn32 hz
          by_cases hk1 : k + 1 < m
          · have hk1z : (k : Int) + 1 < (m : Int) := by omega
            have hk1q : ((k : Int) + 1 == (m : Int)) = false := beq_eq_false_iff_ne.2 (by omega)
            by_cases h255 : z ≤ 255
            · have h255z : ¬ (255 : Int) < z := by omega
              have hn255 : n ≤ 255 := by have := HZ.out; omega
              have HNX := Lib.hid (numI_next HI.out HM.out hk1 h4 HPP.out HNP.out hn255)
              obtain ⟨hsh1, hsh2⟩ := shift_fits n k hn255
              rw [← HZ.out] at hsh1
              obtain ⟨S, hS⟩ : ∃ S : Int, S = ((n * 256 ^ (3 - k) : Nat) : Int) := ⟨_, rfl⟩
              rw [← hS] at hsh1
              have hS0 : 0 ≤ S ∧ S < 4294967296 := by omega
              have HS := Lib.hid hS
              clear hS hsh2
              go_wp2_with fail
              refine (HPV2.out _).mono ?_
              rintro e w3 ⟨rfl, rfl⟩
              go_wp2
              go_round
              case rel => exact ⟨k + 1, N + n * 256 ^ (3 - k), by omega, by go_num, by first | (congr 1; have := HS.out; have := HNZ.out; omega) | (simp; have := HS.out; have := HNZ.out; omega), HNX⟩
              case measure => simp [intOf]; omega
            · have h255z : (255 : Int) < z := by omega
              have HNO := Lib.hid (numI_big HI.out HM.out hk1 HPP.out HNP.out (by have := HZ.out; omega))
              go_wp2_with fail
              refine (HPV2.out _).mono ?_
              rintro e w3 ⟨rfl, rfl⟩
              go_wp2
              go_ret2
              exact ⟨by rw [HR.out, HNO.out]; rfl, HB2.out⟩
          · have hk1z : ¬ (k : Int) + 1 < (m : Int) := by omega
            have hk1e : k + 1 = m := by omega
            have hk1q : ((k : Int) + 1 == (m : Int)) = true := beq_iff_eq.2 (by omega)
            have hpw := HPW.out
            obtain ⟨L, hL⟩ : ∃ L : Int, L = ((256 ^ (5 - m) : Nat) : Int) := ⟨_, rfl⟩
            rw [← hL] at hpw
            have HL := Lib.hid hL
            clear hL
            by_cases hbig : L ≤ z
            · have HNO := Lib.hid (numI_last HI.out HM.out hk1e HPP.out HNP.out (by have := HZ.out; have := HL.out; omega))
              go_wp2_with fail
              refine (HPV2.out _).mono ?_
              rintro e w3 ⟨rfl, rfl⟩
              go_wp2
              go_ret2
              exact ⟨by rw [HR.out, HNO.out]; rfl, HB2.out⟩
            · have HNX := Lib.hid (numI_end HI.out HM.out hk1e h4 HPP.out HNP.out (by have := HZ.out; have := HL.out; omega))
              go_wp2_with fail
              refine (HPV2.out _).mono ?_
              rintro e w3 ⟨rfl, rfl⟩
              go_wp2
              go_round
              case rel => exact ⟨k + 1, N + n, by omega, by go_num, by first | (congr 1; have := HZ.out; have := HNZ.out; omega) | (simp; have := HZ.out; have := HNZ.out; omega), HNX⟩
              case measure => simp [intOf]; omega
      · have hlz : ¬ (k : Int) < (m : Int) := by omega
        have hke : k = m := by omega
        have HF := Lib.hid (HI.out.2.1 hke)
        clear hke
        go_wp2
        go_ret2
        refine ⟨?_, HB2.out⟩
        rw [HR.out, HF.out, HNZ.out]
        rfl
  · have h4z : (4 : Int) < (m : Int) := by omega
    have HR : Hid (addrP ps = none) := Lib.hid (by unfold addrP; rw [if_neg (by rw [HM.out]; exact h4)])
    go_wp2
    go_ret2
    exact ⟨by rw [HR.out]; rfl, HB2.out⟩

end Go.Proofs.YtnecjofgjbfheaaGreatDoor
