/- The reference's hosts: digits, parts, numeric, part, Number, Address. -/
import Derived.Lib.Strings
import Derived.BigQuiet
import Derived.Test.YtlhdafinfgdlkaaGreatDoorProg
import Derived.Test.YtlhdafinfgdlkaaGreatDoorKit
import Derived.Test.YtlhdafinfgdlkaaGreatDoorPlain
import Derived.Test.YtlhdafinfgdlkaaGreatDoorAsc4
import Derived.Test.YtlhdafinfgdlkaaGreatDoorAsc5
import Derived.Test.YtlhdafinfgdlkaaGreatDoorRow
import Derived.Test.YtlhdafinfgdlkaaGreatDoorPct0
import Derived.Test.YtlhdafinfgdlkaaGreatDoorPct4
import Derived.Test.YtlhdafinfgdlkaaGreatDoorHst0
import Derived.Test.YtlhdafinfgdlkaaGreatDoorHst1
import Derived.Test.YtlhdafinfgdlkaaGreatDoorHst2
import Derived.Test.YtlhdafinfgdlkaaGreatDoorHst3
namespace Go.Proofs.YtlhdafinfgdlkaaGreatDoor
open Go.RowKit Go.Proofs
set_option maxRecDepth 100000

def digP (b : Int) (l : List UInt8) : Bool := decide (l ≠ []) && allD b l

theorem rdigits_any (s : ByteArray) (b : Nat) (hb : b ≤ 16) (hs : s.size ≤ 1073741824) (w : World) :
    Calls Tryz.prog 67 #[.string s, .int .i64 (b : Int)] w fun e w' => e = .returned (.bool (digP b s.data.toList)) ∧ w' = w := by
  have hbb : (0 : Int) ≤ (b : Int) ∧ (b : Int) ≤ 16 := by omega
  go_enter Tryz.func67, Tryz.ntmps67
  go_wp2
  go_loop [5] (fun i => ∃ k : Nat, k ≤ s.size ∧ i = .int .i64 k ∧ allD b (s.data.toList.take k) = true) (fun i => s.size - (intOf i).toNat)
  case atStart => exact ⟨0, Nat.zero_le _, rfl, rfl⟩
  case round =>
    obtain ⟨k, hk, rfl, hno⟩ := hrel
    have HN := Lib.hid hno
    clear hno
    by_cases hlt : k < s.size
    · have HI : Hid (isD b s[k] = (decide (0 ≤ hexI s[k].toNat) && decide (hexI s[k].toNat < b))) := Lib.hid rfl
      have hdb := hexI_bd s[k].toNat
      have HD := Lib.hid (hex_any9 s[k] w)
      obtain ⟨D, hD⟩ : ∃ D, D = hexI s[k].toNat := ⟨_, rfl⟩
      rw [← hD] at hdb HI HD
      clear hD
      by_cases h1 : D < 0
      · have HF := Lib.hid (allD_at b s k hlt (by rw [HI.out, decide_eq_false (by omega)]; rfl))
        go_wp2_with fail
        refine HD.out.mono ?_
        rintro e w' ⟨rfl, rfl⟩
        go_wp2
        go_ret
        exact ⟨ret_bool (by unfold digP; rw [HF.out, Bool.and_false]), rfl⟩
      · by_cases h2 : (b : Int) ≤ D
        · have HF := Lib.hid (allD_at b s k hlt (by rw [HI.out, decide_eq_false (by omega : ¬ D < (b : Int)), Bool.and_false]))
          go_wp2_with fail
          refine HD.out.mono ?_
          rintro e w' ⟨rfl, rfl⟩
          go_wp2
          go_ret
          exact ⟨ret_bool (by unfold digP; rw [HF.out, Bool.and_false]), rfl⟩
        · have HF : Hid (allD b (s.data.toList.take (k + 1)) = true) := Lib.hid (by
            rw [take_snoc s k hlt, allD_snoc, HN.out, HI.out, decide_eq_true (by omega), decide_eq_true (by omega)]
            rfl)
          go_wp2_with fail
          refine HD.out.mono ?_
          rintro e w' ⟨rfl, rfl⟩
          go_wp2
          go_round
          case rel => exact ⟨k + 1, by omega, by go_num, HF.out⟩
          case measure => simp [intOf]; omega
    · have hfin := HN.out
      rw [List.take_of_length_le (by simp; omega)] at hfin
      have HF := Lib.hid hfin
      clear hfin
      by_cases h0 : s.size = 0
      · have hy := emptyYes h0
        have HR : Hid (digP b s.data.toList = false) := Lib.hid (by unfold digP; rw [nil_size h0]; rfl)
        go_wp2
        go_ret
        exact ⟨ret_bool HR.out.symm, rfl⟩
      · have hy := emptyNo h0
        have HR : Hid (digP b s.data.toList = true) := Lib.hid (by have h2 : s.data.toList ≠ [] := fun h => h0 (by rw [← size_data, h]; rfl); simp [digP, h2, HF.out])
        go_wp2
        go_ret
        exact ⟨ret_bool HR.out.symm, rfl⟩

theorem rparts_any (s : ByteArray) (hs : s.size ≤ 1073741824) (w : World) :
    Calls Tryz.prog 131 #[.string s] w fun e w' => (∃ a c, e = .returned (.slice a (partsL s.data.toList).length c) ∧ (partsL s.data.toList).length ≤ c ∧ SliceAt w' (.slice a (partsL s.data.toList).length c) ((partsL s.data.toList).map strL)) ∧ Below w.heap.size w w' := by
  have HS := Lib.hid (ref_split_any s 46 hs w)
  have hlen := splitL_len s.data.toList 46
  rw [size_data] at hlen
  have hpos := split_len s.data.toList 46
  obtain ⟨m, hm⟩ : ∃ m, (splitL s.data.toList 46).length = m + 1 := ⟨(splitL s.data.toList 46).length - 1, by omega⟩
  obtain ⟨p, hp, hlast⟩ := split_at_last _ m hm
  have hmz : m ≤ 1073741824 := by omega
  have HP : Hid (partsL s.data.toList = if 1 < m + 1 ∧ some p = some [] then (splitL s.data.toList 46).dropLast else splitL s.data.toList 46) := Lib.hid (by unfold partsL; rw [hm, hlast])
  rw [hm] at HS
  have HL := Lib.hid hm
  obtain ⟨xs, hxs⟩ : ∃ xs, xs = splitL s.data.toList 46 := ⟨_, rfl⟩
  rw [← hxs] at HS HP HL hp
  have HPP := Lib.hid hp
  clear hxs hm hlen hpos hlast hp
  go_enter Tryz.func131, Tryz.ntmps131
  go_wp2_with fail
  refine HS.out.mono ?_
  rintro e w1 ⟨⟨v, rfl, hown⟩, hb⟩
  have hsl := SliceAt.own hown
  have HB := Lib.hid hb
  obtain ⟨a, c, rfl⟩ := own_len hown
  have hcap : m + 1 ≤ c := by
    rcases hown.2 with ⟨_, h⟩ | ⟨g, cap, cur, e, _, _, hnc, _⟩
    · omega
    · injection e with _ _ e
      omega
  have hc0 : ¬ c = 0 := by omega
  have hmc : (m : Int) ≤ (c : Int) := by omega
  have hne : xs.map strL ≠ [] := by
    intro h
    have := congrArg List.length h
    rw [List.length_map, HL.out] at this
    simp at this
  obtain ⟨b, off, c2, e, hcell⟩ := SliceAt.at hsl hne
  injection e with e1 e2 e3
  subst e1 e3
  have hx := hcell m (strL p) (by rw [List.getElem?_map, HPP.out]; rfl)
  rw [strL_mk] at hx
  have HSL := Lib.hid hsl
  clear hsl hcell hne e2 hb hown
  obtain ⟨pt, hpt⟩ : ∃ pt : ByteArray, pt = ⟨p.toArray⟩ := ⟨_, rfl⟩
  rw [← hpt] at hx
  by_cases hm0 : 0 < m
  · have hz0 : (1 : Int) < (m : Int) + 1 := by omega
    have hz1 : (0 : Int) < (m : Int) := by omega
    by_cases he : p = []
    · have hpe := emptyYes (t := pt) (by rw [hpt, he]; rfl)
      clear hpt
      go_wp2
      go_ret
      have hl := HL.out
      have hh := sliceAt_less (m := m) (xs := xs.map strL) (by rw [List.length_map, hl]; exact HSL.out) (by rw [List.length_map]; omega)
      rw [if_neg hc0] at hh
      have e1 : partsL s.data.toList = xs.take m := by rw [HP.out, if_pos ⟨by omega, by rw [he]⟩, List.dropLast_eq_take, hl, Nat.add_sub_cancel]
      have e2 : (xs.take m).length = m := by rw [List.length_take, hl]; omega
      rw [e1, e2, List.map_take]
      exact ⟨⟨_, _, rfl, by omega, hh⟩, HB.out⟩
    · have hpe := emptyNo (t := pt) (by rw [hpt, mk_size]; exact fun h => he (List.eq_nil_of_length_eq_zero h))
      clear hpt
      go_wp2
      go_ret
      have e1 : partsL s.data.toList = xs := by rw [HP.out, if_neg (by rintro ⟨_, h⟩; injection h with h; exact he h)]
      rw [e1, HL.out]
      exact ⟨⟨_, _, rfl, hcap, HSL.out⟩, HB.out⟩
  · have hz0 : ¬ (1 : Int) < (m : Int) + 1 := by omega
    have hz1 : ¬ (0 : Int) < (m : Int) := by omega
    clear hpt
    go_wp2
    go_ret
    have e1 : partsL s.data.toList = xs := by rw [HP.out, if_neg (by rintro ⟨h, _⟩; omega)]
    rw [e1, HL.out]
    exact ⟨⟨_, _, rfl, hcap, HSL.out⟩, HB.out⟩

/-! the first two bytes -/
theorem xpre_at (s : ByteArray) (h : 2 ≤ s.size) : xpre s.data.toList = (decide ((s[0].toNat : Int) = 48) && (decide ((s[1].toNat : Int) = 120) || decide ((s[1].toNat : Int) = 88))) := by
  unfold xpre
  rw [size_data, getD_at s 0 (by omega), getD_at s 1 (by omega), decide_eq_true h, Bool.true_and]

theorem opre_at (s : ByteArray) (h : 2 ≤ s.size) : opre s.data.toList = decide ((s[0].toNat : Int) = 48) := by
  unfold opre
  rw [size_data, getD_at s 0 (by omega), decide_eq_true h, Bool.true_and]

theorem xpre_short (s : ByteArray) (h : ¬ 2 ≤ s.size) : xpre s.data.toList = false ∧ opre s.data.toList = false := by
  unfold xpre opre
  rw [size_data, decide_eq_false h]
  exact ⟨rfl, rfl⟩

theorem digP_ne (b : Int) {l : List UInt8} (h : l ≠ []) : digP b l = allD b l := by simp [digP, h]

theorem ne_of_size {s : ByteArray} (h : s.size ≠ 0) : s.data.toList ≠ [] := fun e => h (by rw [← size_data, e]; rfl)

theorem drop_ne {l : List UInt8} {n : Nat} (h : n < l.length) : l.drop n ≠ [] := by
  intro e
  have := congrArg List.length e
  rw [List.length_drop] at this
  simp at this
  omega

theorem last_parts (d : List UInt8) : ∃ m p, (partsL d).length = m + 1 ∧ (partsL d)[m]? = some p ∧ (partsL d).getLastD [] = p := by
  obtain ⟨m, hm⟩ : ∃ m, (partsL d).length = m + 1 := ⟨(partsL d).length - 1, by have := parts_pos d; omega⟩
  generalize partsL d = xs at hm
  refine ⟨m, xs[m]'(by omega), hm, List.getElem?_eq_getElem (by omega), ?_⟩
  have e : xs.length - 1 = m := by omega
  rw [List.getLastD_eq_getLast?, List.getLast?_eq_getElem?, e, List.getElem?_eq_getElem (by omega)]
  rfl

theorem parts_count (d : List UInt8) : (partsL d).length ≤ d.length + 1 := by
  have h1 : (partsL d).length ≤ (splitL d 46).length := by
    unfold partsL
    split
    · rw [List.length_dropLast]; omega
    · exact Nat.le_refl _
  have h2 := splitL_len d 46
  omega

theorem rnumeric_any (s : ByteArray) (hs : s.size ≤ 1073741824) (w : World) :
    Calls Tryz.prog 101 #[.string s] w fun e w' => e = .returned (.bool (numericP ((partsL s.data.toList).getLastD []))) ∧ Below w.heap.size w w' := by
  have HPT := Lib.hid (rparts_any s hs w)
  obtain ⟨m, p, hm, hp, hlast⟩ := last_parts s.data.toList
  have hmz := parts_count s.data.toList
  rw [size_data] at hmz
  have hmz2 : m ≤ 1073741824 := by omega
  have hsz : p.length ≤ 1073741824 := by
    have := parts_size (List.mem_of_getElem? hp)
    rw [size_data] at this
    omega
  rw [hlast]
  rw [hm] at HPT
  obtain ⟨ps, hps⟩ : ∃ ps, ps = partsL s.data.toList := ⟨_, rfl⟩
  rw [← hps] at HPT hp
  have HPP := Lib.hid hp
  obtain ⟨pt, hpt⟩ : ∃ pt : ByteArray, pt = ⟨p.toArray⟩ := ⟨_, rfl⟩
  have hpd : p = pt.data.toList := by rw [hpt]
  have hpz : pt.size ≤ 1073741824 := by rw [hpt]; exact hsz
  have HPE := Lib.hid hpt
  rw [hpd]
  have HD := Lib.hid (fun W => rdigits_any pt 10 (by decide) hpz W)
  clear hps hp hm hlast hmz hsz hpt hpd hs
  go_enter Tryz.func101, Tryz.ntmps101
  go_wp2_with fail
  refine HPT.out.mono ?_
  rintro e w2 ⟨⟨a, c, rfl, _, hsl⟩, hb2⟩
  have HB2 := Lib.hid hb2
  obtain ⟨b, off, rfl, hcell⟩ := sl_at hsl (j := m) (x := strL p) (by rw [List.getElem?_map, HPP.out]; rfl)
  rw [strL_mk, ← HPE.out] at hcell
  clear hb2 hsl HPT
  have i1 : (0 : Int) ≤ (m : Int) := by omega
  have i2 : (m : Int) < (m : Int) + 1 := by omega
  cases h10 : digP 10 pt.data.toList
  · rw [show ((10 : Nat) : Int) = 10 from rfl, h10] at HD
    by_cases h2 : 2 ≤ pt.size
    · have hz2 : (2 : Int) ≤ (pt.size : Int) := by omega
      have i0 : 0 < pt.size := by omega
      have j0 : 1 < pt.size := by omega
      have i0z : (0 : Int) < (pt.size : Int) := by omega
      have j0z : (1 : Int) < (pt.size : Int) := by omega
      have hx := xpre_at pt h2
      have hne := ne_of_size (s := pt) (by omega)
      have hN : numericP pt.data.toList = (xpre pt.data.toList && allD 16 (pt.data.toList.drop 2)) := by
        have h3 := digP_ne 10 hne
        rw [h10] at h3
        unfold numericP
        rw [← h3]
        simp
      by_cases c0 : (pt[0].toNat : Int) = 48
      · have b0 : ((pt[0].toNat : Int) == 48) = true := beq_iff_eq.2 c0
        by_cases c1 : (pt[1].toNat : Int) = 120 ∨ (pt[1].toNat : Int) = 88
        · have hxt : xpre pt.data.toList = true := by
            rw [hx, decide_eq_true c0]
            rcases c1 with c | c <;> simp [c]
          rw [hxt, Bool.true_and] at hN
          by_cases c2 : pt.size = 2
          · have c2z : ((pt.size : Int) == 2) = true := beq_iff_eq.2 (by omega)
            have HR : Hid (numericP pt.data.toList = true) := Lib.hid (by rw [hN, List.drop_of_length_le (by rw [size_data]; omega)]; rfl)
            have c2y : (pt.size : Int) = 2 := by omega
            clear hx hN hxt hne
            rcases c1 with c | c
            · have b1 : ((pt[1].toNat : Int) == 120) = true := beq_iff_eq.2 c
              go_wp2_with fail
              refine (HD.out _).mono ?_
              rintro e w3 ⟨rfl, rfl⟩
              go_wp2
              go_ret
              exact ⟨ret_bool HR.out.symm, HB2.out⟩
            · have b1 : ((pt[1].toNat : Int) == 120) = false := beq_eq_false_iff_ne.2 (by omega)
              have b2 : ((pt[1].toNat : Int) == 88) = true := beq_iff_eq.2 c
              go_wp2_with fail
              refine (HD.out _).mono ?_
              rintro e w3 ⟨rfl, rfl⟩
              go_wp2
              go_ret
              exact ⟨ret_bool HR.out.symm, HB2.out⟩
          · have c2z : ((pt.size : Int) == 2) = false := beq_eq_false_iff_ne.2 (by omega)
            have HDD := Lib.hid (fun W => rdigits_any (pt.extract 2 pt.size) 16 (by decide) (by rw [ByteArray.size_extract]; omega) W)
            rw [extract_tail, digP_ne _ (drop_ne (by rw [size_data]; omega)), show ((16 : Nat) : Int) = 16 from rfl, ← hN] at HDD
            clear hx hN hxt hne
            rcases c1 with c | c
            · have b1 : ((pt[1].toNat : Int) == 120) = true := beq_iff_eq.2 c
              go_wp2_with fail
              refine (HD.out _).mono ?_
              rintro e w3 ⟨rfl, rfl⟩
              go_wp2_with fail
              refine (HDD.out _).mono ?_
              rintro e w3 ⟨rfl, rfl⟩
              go_wp2
              go_ret
              exact ⟨rfl, HB2.out⟩
            · have b1 : ((pt[1].toNat : Int) == 120) = false := beq_eq_false_iff_ne.2 (by omega)
              have b2 : ((pt[1].toNat : Int) == 88) = true := beq_iff_eq.2 c
              go_wp2_with fail
              refine (HD.out _).mono ?_
              rintro e w3 ⟨rfl, rfl⟩
              go_wp2_with fail
              refine (HDD.out _).mono ?_
              rintro e w3 ⟨rfl, rfl⟩
              go_wp2
              go_ret
              exact ⟨rfl, HB2.out⟩
        · have b1 : ((pt[1].toNat : Int) == 120) = false := beq_eq_false_iff_ne.2 (fun h => c1 (.inl h))
          have b2 : ((pt[1].toNat : Int) == 88) = false := beq_eq_false_iff_ne.2 (fun h => c1 (.inr h))
          have HR : Hid (numericP pt.data.toList = false) := Lib.hid (by
            rw [hN, hx, decide_eq_false (fun h => c1 (.inl h)), decide_eq_false (fun h => c1 (.inr h))]
            simp)
          clear hx hN hne c1
          go_wp2_with fail
          refine (HD.out _).mono ?_
          rintro e w3 ⟨rfl, rfl⟩
          go_wp2
          go_ret
          exact ⟨ret_bool HR.out.symm, HB2.out⟩
      · have b0 : ((pt[0].toNat : Int) == 48) = false := beq_eq_false_iff_ne.2 c0
        have HR : Hid (numericP pt.data.toList = false) := Lib.hid (by rw [hN, hx, decide_eq_false c0]; simp)
        clear hx hN hne
        go_wp2_with fail
        refine (HD.out _).mono ?_
        rintro e w3 ⟨rfl, rfl⟩
        go_wp2
        go_ret
        exact ⟨ret_bool HR.out.symm, HB2.out⟩
    · have hz2 : ¬ (2 : Int) ≤ (pt.size : Int) := by omega
      have HR : Hid (numericP pt.data.toList = false) := Lib.hid (by
        unfold digP at h10
        unfold numericP
        rw [h10, (xpre_short pt h2).1]
        rfl)
      go_wp2_with fail
      refine (HD.out _).mono ?_
      rintro e w3 ⟨rfl, rfl⟩
      go_wp2
      go_ret
      exact ⟨ret_bool HR.out.symm, HB2.out⟩
  · rw [show ((10 : Nat) : Int) = 10 from rfl, h10] at HD
    have HR : Hid (numericP pt.data.toList = true) := Lib.hid (by
      unfold digP at h10
      unfold numericP
      rw [h10]
      rfl)
    go_wp2_with fail
    refine (HD.out _).mono ?_
    rintro e w3 ⟨rfl, rfl⟩
    go_wp2
    go_ret
    exact ⟨ret_bool HR.out.symm, HB2.out⟩

/-! part -/
def p32 (o : Option Nat) : Option Nat := match o with | none => none | some n => if n < 4294967296 then some n else none

theorem p32_big {n : Nat} (h : ¬ n < 4294967296) : p32 (some n) = none := by simp only [p32]; rw [if_neg h]

theorem p32_ok {n : Nat} (h : n < 4294967296) : p32 (some n) = some n := by simp only [p32]; rw [if_pos h]

theorem valD_mono (b : Nat) (hb : 1 ≤ b) (l : List UInt8) (k : Nat) : valD b (l.take k) ≤ valD b l := by
  have h : ∀ (r : List UInt8) (x : Nat), x ≤ r.foldl (fun n c => n * b + (hexI c.toNat).toNat) x := by
    intro r
    induction r with
    | nil => intro x; exact Nat.le_refl _
    | cons c r ih =>
      intro x
      rw [List.foldl_cons]
      have h1 : x * 1 ≤ x * b := Nat.mul_le_mul_left _ hb
      exact Nat.le_trans (by omega) (ih (x * b + (hexI c.toNat).toNat))
  unfold valD
  conv => rhs; rw [← List.take_append_drop k l, List.foldl_append]
  exact h _ _

theorem isD_at {b : Int} {s : ByteArray} (ha : allD b s.data.toList = true) (k : Nat) (h : k < s.size) : 0 ≤ hexI s[k].toNat ∧ hexI s[k].toNat < b := by
  cases hd : isD b s[k]
  · rw [allD_at b s k h hd] at ha
    exact absurd ha (by decide)
  · unfold isD at hd
    simpa [Bool.and_eq_true] using hd

theorem numP_oct {l : List UInt8} (hx : xpre l = false) (ho : opre l = true) : numP l = valP 8 (l.drop 1) ∧ 1 < l.length := by
  rw [numP_o hx ho]
  unfold opre at ho
  simp only [Bool.and_eq_true, decide_eq_true_eq] at ho
  obtain ⟨h2, h48⟩ := ho
  match l, h2 with
  | a :: b :: r, _ =>
    simp only [List.getD_cons_zero] at h48
    have : a = 48 := UInt8.toNat_inj.1 (by show a.toNat = 48; omega)
    subst this
    refine ⟨?_, by simp⟩
    show valP 8 (48 :: (b :: r)) = valP 8 (b :: r)
    have e1 : allD 8 (48 :: (b :: r)) = allD 8 (b :: r) := by
      unfold allD
      rw [List.all_cons]
      have : isD 8 48 = true := by decide
      rw [this, Bool.true_and]
    have e2 : valD 8 (48 :: (b :: r)) = valD 8 (b :: r) := by
      unfold valD
      rw [List.foldl_cons]
      rfl
    unfold valP
    rw [show ((8 : Nat) : Int) = 8 from rfl, e1, e2]

theorem rpart_d (s : ByteArray) (t : ByteArray) (T : Option Nat) (w : World) (ht : t.size ≤ 1073741824) (hne : t.data.toList ≠ []) (hT : T = valP 10 t.data.toList)
    (hst : t = s) (h2 : 2 ≤ s.size) (b0 : ((s[0].toNat : Int) == 48) = false) :
    Calls Tryz.prog 132 #[.string s] w fun e w' => e = .returned (.tuple #[.int .u64 ((optN (p32 T) : Nat) : Int), .bool (p32 T).isSome]) ∧ w' = w := by
  have HDG := Lib.hid (fun W => rdigits_any t 10 (by decide) ht W)
  subst hst
  have i0 : 0 < t.size := by omega
  have i0z : (0 : Int) < (t.size : Int) := by omega
  have h2z : (2 : Int) ≤ (t.size : Int) := by omega
  cases hd : digP 10 t.data.toList
  · rw [show ((10 : Nat) : Int) = 10 from rfl, hd] at HDG
    have HRES : Hid (p32 T = none) := Lib.hid (by rw [hT, valP_no (by rw [digP_ne 10 hne] at hd; exact hd)]; rfl)
    clear hT hne
    go_enter Tryz.func132, Tryz.ntmps132
    go_wp2_with fail
    refine (HDG.out _).mono ?_
    rintro e w3 ⟨rfl, rfl⟩
    go_wp2
    go_ret2
    exact ⟨by rw [HRES.out]; rfl, rfl⟩
  · rw [show ((10 : Nat) : Int) = 10 from rfl, hd] at HDG
    have hall : allD 10 t.data.toList = true := by rw [digP_ne 10 hne] at hd; exact hd
    have HRES : Hid (T = some (valD 10 t.data.toList)) := Lib.hid (by rw [hT]; exact valP_yes hall)
    have HALL := Lib.hid hall
    clear hT hne hd hall
    go_enter Tryz.func132, Tryz.ntmps132
    go_wp2_with fail
    refine (HDG.out _).mono ?_
    rintro e w3 ⟨rfl, rfl⟩
    clear HDG
    go_wp2_with fail
    go_loop [5, 6] (fun n i => ∃ (k N : Nat), k ≤ t.size ∧ i = .int .i64 k ∧ n = .int .u64 (N : Int) ∧ N < 4294967296 ∧ Hid (N = valD 10 (t.data.toList.take k))) (fun _ i => t.size - (intOf i).toNat)
    case atStart => exact ⟨0, 0, Nat.zero_le _, rfl, rfl, by omega, Lib.hid rfl⟩
    case round =>
      obtain ⟨k, N, hk, rfl, rfl, hN, HN⟩ := hrel
      obtain ⟨NZ, hNZ⟩ : ∃ NZ : Int, NZ = (N : Int) := ⟨_, rfl⟩
      have hNZ0 : 0 ≤ NZ ∧ NZ < 4294967296 := by omega
      rw [← hNZ]
      have HNZ := Lib.hid hNZ
      have HNN := Lib.hid hN
      clear hNZ hN
      by_cases hlt : k < t.size
      · have hin : (k : Int) < (t.size : Int) := by omega
        have hds := isD_at HALL.out k hlt
        have HX := Lib.hid (hex_any9 t[k] w3)
        obtain ⟨D, hD⟩ : ∃ D, D = hexI t[k].toNat := ⟨_, rfl⟩
        rw [← hD] at HX hds
        have hV : Hid (((valD 10 (t.data.toList.take (k + 1)) : Nat) : Int) = NZ * 10 + D) := Lib.hid (by
          rw [take_snoc t k hlt, valD_snoc, ← HN.out, HNZ.out, ← hD]
          omega)
        have hMO := Lib.hid (valD_mono 10 (by decide) t.data.toList (k + 1))
        clear hD
        by_cases hbig : NZ * 10 + D < 4294967296
        · have hb2 : ¬ (4294967296 : Int) ≤ NZ * 10 + D := by omega
          go_wp2_with fail
          refine HX.out.mono ?_
          rintro e w4 ⟨rfl, rfl⟩
          go_wp2
          go_round
          case rel => exact ⟨k + 1, (NZ * 10 + D).toNat, by omega, by go_num, by first | (congr 1; omega) | (simp; omega), by omega, Lib.hid (by have := hV.out; omega)⟩
          case measure => simp [intOf]; omega
        · have hb2 : (4294967296 : Int) ≤ NZ * 10 + D := by omega
          have HRN : Hid (p32 T = none) := Lib.hid (by
            rw [HRES.out]
            apply p32_big
            have := hV.out
            have := hMO.out
            omega)
          go_wp2_with fail
          refine HX.out.mono ?_
          rintro e w4 ⟨rfl, rfl⟩
          go_wp2
          go_ret2
          exact ⟨by rw [HRN.out]; rfl, rfl⟩
      · have hin : ¬ (k : Int) < (t.size : Int) := by omega
        have hfin := HN.out
        rw [List.take_of_length_le (by rw [size_data]; omega)] at hfin
        have HRN : Hid (p32 T = some N) := Lib.hid (by rw [HRES.out, ← hfin]; exact p32_ok HNN.out)
        clear hfin
        go_wp2
        go_ret2
        exact ⟨by rw [HRN.out, HNZ.out]; rfl, rfl⟩

theorem rpart_d1 (s : ByteArray) (t : ByteArray) (T : Option Nat) (w : World) (ht : t.size ≤ 1073741824) (hne : t.data.toList ≠ []) (hT : T = valP 10 t.data.toList)
    (hst : t = s) (h2 : ¬ 2 ≤ s.size) :
    Calls Tryz.prog 132 #[.string s] w fun e w' => e = .returned (.tuple #[.int .u64 ((optN (p32 T) : Nat) : Int), .bool (p32 T).isSome]) ∧ w' = w := by
  have HDG := Lib.hid (fun W => rdigits_any t 10 (by decide) ht W)
  subst hst
  have h2z : ¬ (2 : Int) ≤ (t.size : Int) := by omega
  cases hd : digP 10 t.data.toList
  · rw [show ((10 : Nat) : Int) = 10 from rfl, hd] at HDG
    have HRES : Hid (p32 T = none) := Lib.hid (by rw [hT, valP_no (by rw [digP_ne 10 hne] at hd; exact hd)]; rfl)
    clear hT hne
    go_enter Tryz.func132, Tryz.ntmps132
    go_wp2_with fail
    refine (HDG.out _).mono ?_
    rintro e w3 ⟨rfl, rfl⟩
    go_wp2
    go_ret2
    exact ⟨by rw [HRES.out]; rfl, rfl⟩
  · rw [show ((10 : Nat) : Int) = 10 from rfl, hd] at HDG
    have hall : allD 10 t.data.toList = true := by rw [digP_ne 10 hne] at hd; exact hd
    have HRES : Hid (T = some (valD 10 t.data.toList)) := Lib.hid (by rw [hT]; exact valP_yes hall)
    have HALL := Lib.hid hall
    clear hT hne hd hall
    go_enter Tryz.func132, Tryz.ntmps132
    go_wp2_with fail
    refine (HDG.out _).mono ?_
    rintro e w3 ⟨rfl, rfl⟩
    clear HDG
    go_wp2_with fail
    go_loop [5, 6] (fun n i => ∃ (k N : Nat), k ≤ t.size ∧ i = .int .i64 k ∧ n = .int .u64 (N : Int) ∧ N < 4294967296 ∧ Hid (N = valD 10 (t.data.toList.take k))) (fun _ i => t.size - (intOf i).toNat)
    case atStart => exact ⟨0, 0, Nat.zero_le _, rfl, rfl, by omega, Lib.hid rfl⟩
    case round =>
      obtain ⟨k, N, hk, rfl, rfl, hN, HN⟩ := hrel
      obtain ⟨NZ, hNZ⟩ : ∃ NZ : Int, NZ = (N : Int) := ⟨_, rfl⟩
      have hNZ0 : 0 ≤ NZ ∧ NZ < 4294967296 := by omega
      rw [← hNZ]
      have HNZ := Lib.hid hNZ
      have HNN := Lib.hid hN
      clear hNZ hN
      by_cases hlt : k < t.size
      · have hin : (k : Int) < (t.size : Int) := by omega
        have hds := isD_at HALL.out k hlt
        have HX := Lib.hid (hex_any9 t[k] w3)
        obtain ⟨D, hD⟩ : ∃ D, D = hexI t[k].toNat := ⟨_, rfl⟩
        rw [← hD] at HX hds
        have hV : Hid (((valD 10 (t.data.toList.take (k + 1)) : Nat) : Int) = NZ * 10 + D) := Lib.hid (by
          rw [take_snoc t k hlt, valD_snoc, ← HN.out, HNZ.out, ← hD]
          omega)
        have hMO := Lib.hid (valD_mono 10 (by decide) t.data.toList (k + 1))
        clear hD
        by_cases hbig : NZ * 10 + D < 4294967296
        · have hb2 : ¬ (4294967296 : Int) ≤ NZ * 10 + D := by omega
          go_wp2_with fail
          refine HX.out.mono ?_
          rintro e w4 ⟨rfl, rfl⟩
          go_wp2
          go_round
          case rel => exact ⟨k + 1, (NZ * 10 + D).toNat, by omega, by go_num, by first | (congr 1; omega) | (simp; omega), by omega, Lib.hid (by have := hV.out; omega)⟩
          case measure => simp [intOf]; omega
        · have hb2 : (4294967296 : Int) ≤ NZ * 10 + D := by omega
          have HRN : Hid (p32 T = none) := Lib.hid (by
            rw [HRES.out]
            apply p32_big
            have := hV.out
            have := hMO.out
            omega)
          go_wp2_with fail
          refine HX.out.mono ?_
          rintro e w4 ⟨rfl, rfl⟩
          go_wp2
          go_ret2
          exact ⟨by rw [HRN.out]; rfl, rfl⟩
      · have hin : ¬ (k : Int) < (t.size : Int) := by omega
        have hfin := HN.out
        rw [List.take_of_length_le (by rw [size_data]; omega)] at hfin
        have HRN : Hid (p32 T = some N) := Lib.hid (by rw [HRES.out, ← hfin]; exact p32_ok HNN.out)
        clear hfin
        go_wp2
        go_ret2
        exact ⟨by rw [HRN.out, HNZ.out]; rfl, rfl⟩

theorem rpart_o (s : ByteArray) (t : ByteArray) (T : Option Nat) (w : World) (ht : t.size ≤ 1073741824) (hne : t.data.toList ≠ []) (hT : T = valP 8 t.data.toList)
    (hst : s.extract 1 s.size = t) (h2 : 2 ≤ s.size) (b0 : ((s[0].toNat : Int) == 48) = true) (b1 : ((s[1].toNat : Int) == 120) = false) (b2 : ((s[1].toNat : Int) == 88) = false) :
    Calls Tryz.prog 132 #[.string s] w fun e w' => e = .returned (.tuple #[.int .u64 ((optN (p32 T) : Nat) : Int), .bool (p32 T).isSome]) ∧ w' = w := by
  have HDG := Lib.hid (fun W => rdigits_any t 8 (by decide) ht W)
  have i0 : 0 < s.size := by omega
  have i0z : (0 : Int) < (s.size : Int) := by omega
  have i1 : 1 < s.size := by omega
  have i1z : (1 : Int) < (s.size : Int) := by omega
  have i1y : (1 : Int) ≤ (s.size : Int) := by omega
  have h2z : (2 : Int) ≤ (s.size : Int) := by omega
  cases hd : digP 8 t.data.toList
  · rw [show ((8 : Nat) : Int) = 8 from rfl, hd] at HDG
    have HRES : Hid (p32 T = none) := Lib.hid (by rw [hT, valP_no (by rw [digP_ne 8 hne] at hd; exact hd)]; rfl)
    clear hT hne
    go_enter Tryz.func132, Tryz.ntmps132
    go_wp2_with fail
    refine (HDG.out _).mono ?_
    rintro e w3 ⟨rfl, rfl⟩
    go_wp2
    go_ret2
    exact ⟨by rw [HRES.out]; rfl, rfl⟩
  · rw [show ((8 : Nat) : Int) = 8 from rfl, hd] at HDG
    have hall : allD 8 t.data.toList = true := by rw [digP_ne 8 hne] at hd; exact hd
    have HRES : Hid (T = some (valD 8 t.data.toList)) := Lib.hid (by rw [hT]; exact valP_yes hall)
    have HALL := Lib.hid hall
    clear hT hne hd hall
    go_enter Tryz.func132, Tryz.ntmps132
    go_wp2_with fail
    refine (HDG.out _).mono ?_
    rintro e w3 ⟨rfl, rfl⟩
    clear HDG
    go_wp2_with fail
    go_loop [5, 6] (fun n i => ∃ (k N : Nat), k ≤ t.size ∧ i = .int .i64 k ∧ n = .int .u64 (N : Int) ∧ N < 4294967296 ∧ Hid (N = valD 8 (t.data.toList.take k))) (fun _ i => t.size - (intOf i).toNat)
    case atStart => exact ⟨0, 0, Nat.zero_le _, rfl, rfl, by omega, Lib.hid rfl⟩
    case round =>
      obtain ⟨k, N, hk, rfl, rfl, hN, HN⟩ := hrel
      obtain ⟨NZ, hNZ⟩ : ∃ NZ : Int, NZ = (N : Int) := ⟨_, rfl⟩
      have hNZ0 : 0 ≤ NZ ∧ NZ < 4294967296 := by omega
      rw [← hNZ]
      have HNZ := Lib.hid hNZ
      have HNN := Lib.hid hN
      clear hNZ hN
      by_cases hlt : k < t.size
      · have hin : (k : Int) < (t.size : Int) := by omega
        have hds := isD_at HALL.out k hlt
        have HX := Lib.hid (hex_any9 t[k] w3)
        obtain ⟨D, hD⟩ : ∃ D, D = hexI t[k].toNat := ⟨_, rfl⟩
        rw [← hD] at HX hds
        have hV : Hid (((valD 8 (t.data.toList.take (k + 1)) : Nat) : Int) = NZ * 8 + D) := Lib.hid (by
          rw [take_snoc t k hlt, valD_snoc, ← HN.out, HNZ.out, ← hD]
          omega)
        have hMO := Lib.hid (valD_mono 8 (by decide) t.data.toList (k + 1))
        clear hD
        by_cases hbig : NZ * 8 + D < 4294967296
        · have hb2 : ¬ (4294967296 : Int) ≤ NZ * 8 + D := by omega
          go_wp2_with fail
          refine HX.out.mono ?_
          rintro e w4 ⟨rfl, rfl⟩
          go_wp2
          go_round
          case rel => exact ⟨k + 1, (NZ * 8 + D).toNat, by omega, by go_num, by first | (congr 1; omega) | (simp; omega), by omega, Lib.hid (by have := hV.out; omega)⟩
          case measure => simp [intOf]; omega
        · have hb2 : (4294967296 : Int) ≤ NZ * 8 + D := by omega
          have HRN : Hid (p32 T = none) := Lib.hid (by
            rw [HRES.out]
            apply p32_big
            have := hV.out
            have := hMO.out
            omega)
          go_wp2_with fail
          refine HX.out.mono ?_
          rintro e w4 ⟨rfl, rfl⟩
          go_wp2
          go_ret2
          exact ⟨by rw [HRN.out]; rfl, rfl⟩
      · have hin : ¬ (k : Int) < (t.size : Int) := by omega
        have hfin := HN.out
        rw [List.take_of_length_le (by rw [size_data]; omega)] at hfin
        have HRN : Hid (p32 T = some N) := Lib.hid (by rw [HRES.out, ← hfin]; exact p32_ok HNN.out)
        clear hfin
        go_wp2
        go_ret2
        exact ⟨by rw [HRN.out, HNZ.out]; rfl, rfl⟩

theorem rpart_x (s : ByteArray) (t : ByteArray) (T : Option Nat) (w : World) (ht : t.size ≤ 1073741824) (hne : t.data.toList ≠ []) (hT : T = valP 16 t.data.toList)
    (hst : s.extract 2 s.size = t) (h2 : 2 ≤ s.size) (b0 : ((s[0].toNat : Int) == 48) = true) (b1 : ((s[1].toNat : Int) == 120) = true) :
    Calls Tryz.prog 132 #[.string s] w fun e w' => e = .returned (.tuple #[.int .u64 ((optN (p32 T) : Nat) : Int), .bool (p32 T).isSome]) ∧ w' = w := by
  have HDG := Lib.hid (fun W => rdigits_any t 16 (by decide) ht W)
  have i0 : 0 < s.size := by omega
  have i0z : (0 : Int) < (s.size : Int) := by omega
  have i1 : 1 < s.size := by omega
  have i1z : (1 : Int) < (s.size : Int) := by omega
  have h2z : (2 : Int) ≤ (s.size : Int) := by omega
  have hse := emptyNo (t := t) (fun h => hne (nil_size h))
  cases hd : digP 16 t.data.toList
  · rw [show ((16 : Nat) : Int) = 16 from rfl, hd] at HDG
    have HRES : Hid (p32 T = none) := Lib.hid (by rw [hT, valP_no (by rw [digP_ne 16 hne] at hd; exact hd)]; rfl)
    clear hT hne
    go_enter Tryz.func132, Tryz.ntmps132
    go_wp2_with fail
    refine (HDG.out _).mono ?_
    rintro e w3 ⟨rfl, rfl⟩
    go_wp2
    go_ret2
    exact ⟨by rw [HRES.out]; rfl, rfl⟩
  · rw [show ((16 : Nat) : Int) = 16 from rfl, hd] at HDG
    have hall : allD 16 t.data.toList = true := by rw [digP_ne 16 hne] at hd; exact hd
    have HRES : Hid (T = some (valD 16 t.data.toList)) := Lib.hid (by rw [hT]; exact valP_yes hall)
    have HALL := Lib.hid hall
    clear hT hne hd hall
    go_enter Tryz.func132, Tryz.ntmps132
    go_wp2_with fail
    refine (HDG.out _).mono ?_
    rintro e w3 ⟨rfl, rfl⟩
    clear HDG
    go_wp2_with fail
    go_loop [5, 6] (fun n i => ∃ (k N : Nat), k ≤ t.size ∧ i = .int .i64 k ∧ n = .int .u64 (N : Int) ∧ N < 4294967296 ∧ Hid (N = valD 16 (t.data.toList.take k))) (fun _ i => t.size - (intOf i).toNat)
    case atStart => exact ⟨0, 0, Nat.zero_le _, rfl, rfl, by omega, Lib.hid rfl⟩
    case round =>
      obtain ⟨k, N, hk, rfl, rfl, hN, HN⟩ := hrel
      obtain ⟨NZ, hNZ⟩ : ∃ NZ : Int, NZ = (N : Int) := ⟨_, rfl⟩
      have hNZ0 : 0 ≤ NZ ∧ NZ < 4294967296 := by omega
      rw [← hNZ]
      have HNZ := Lib.hid hNZ
      have HNN := Lib.hid hN
      clear hNZ hN
      by_cases hlt : k < t.size
      · have hin : (k : Int) < (t.size : Int) := by omega
        have hds := isD_at HALL.out k hlt
        have HX := Lib.hid (hex_any9 t[k] w3)
        obtain ⟨D, hD⟩ : ∃ D, D = hexI t[k].toNat := ⟨_, rfl⟩
        rw [← hD] at HX hds
        have hV : Hid (((valD 16 (t.data.toList.take (k + 1)) : Nat) : Int) = NZ * 16 + D) := Lib.hid (by
          rw [take_snoc t k hlt, valD_snoc, ← HN.out, HNZ.out, ← hD]
          omega)
        have hMO := Lib.hid (valD_mono 16 (by decide) t.data.toList (k + 1))
        clear hD
        by_cases hbig : NZ * 16 + D < 4294967296
        · have hb2 : ¬ (4294967296 : Int) ≤ NZ * 16 + D := by omega
          go_wp2_with fail
          refine HX.out.mono ?_
          rintro e w4 ⟨rfl, rfl⟩
          go_wp2
          go_round
          case rel => exact ⟨k + 1, (NZ * 16 + D).toNat, by omega, by go_num, by first | (congr 1; omega) | (simp; omega), by omega, Lib.hid (by have := hV.out; omega)⟩
          case measure => simp [intOf]; omega
        · have hb2 : (4294967296 : Int) ≤ NZ * 16 + D := by omega
          have HRN : Hid (p32 T = none) := Lib.hid (by
            rw [HRES.out]
            apply p32_big
            have := hV.out
            have := hMO.out
            omega)
          go_wp2_with fail
          refine HX.out.mono ?_
          rintro e w4 ⟨rfl, rfl⟩
          go_wp2
          go_ret2
          exact ⟨by rw [HRN.out]; rfl, rfl⟩
      · have hin : ¬ (k : Int) < (t.size : Int) := by omega
        have hfin := HN.out
        rw [List.take_of_length_le (by rw [size_data]; omega)] at hfin
        have HRN : Hid (p32 T = some N) := Lib.hid (by rw [HRES.out, ← hfin]; exact p32_ok HNN.out)
        clear hfin
        go_wp2
        go_ret2
        exact ⟨by rw [HRN.out, HNZ.out]; rfl, rfl⟩

theorem rpart_y (s : ByteArray) (t : ByteArray) (T : Option Nat) (w : World) (ht : t.size ≤ 1073741824) (hne : t.data.toList ≠ []) (hT : T = valP 16 t.data.toList)
    (hst : s.extract 2 s.size = t) (h2 : 2 ≤ s.size) (b0 : ((s[0].toNat : Int) == 48) = true) (b1 : ((s[1].toNat : Int) == 120) = false) (b2 : ((s[1].toNat : Int) == 88) = true) :
    Calls Tryz.prog 132 #[.string s] w fun e w' => e = .returned (.tuple #[.int .u64 ((optN (p32 T) : Nat) : Int), .bool (p32 T).isSome]) ∧ w' = w := by
  have HDG := Lib.hid (fun W => rdigits_any t 16 (by decide) ht W)
  have i0 : 0 < s.size := by omega
  have i0z : (0 : Int) < (s.size : Int) := by omega
  have i1 : 1 < s.size := by omega
  have i1z : (1 : Int) < (s.size : Int) := by omega
  have h2z : (2 : Int) ≤ (s.size : Int) := by omega
  have hse := emptyNo (t := t) (fun h => hne (nil_size h))
  cases hd : digP 16 t.data.toList
  · rw [show ((16 : Nat) : Int) = 16 from rfl, hd] at HDG
    have HRES : Hid (p32 T = none) := Lib.hid (by rw [hT, valP_no (by rw [digP_ne 16 hne] at hd; exact hd)]; rfl)
    clear hT hne
    go_enter Tryz.func132, Tryz.ntmps132
    go_wp2_with fail
    refine (HDG.out _).mono ?_
    rintro e w3 ⟨rfl, rfl⟩
    go_wp2
    go_ret2
    exact ⟨by rw [HRES.out]; rfl, rfl⟩
  · rw [show ((16 : Nat) : Int) = 16 from rfl, hd] at HDG
    have hall : allD 16 t.data.toList = true := by rw [digP_ne 16 hne] at hd; exact hd
    have HRES : Hid (T = some (valD 16 t.data.toList)) := Lib.hid (by rw [hT]; exact valP_yes hall)
    have HALL := Lib.hid hall
    clear hT hne hd hall
    go_enter Tryz.func132, Tryz.ntmps132
    go_wp2_with fail
    refine (HDG.out _).mono ?_
    rintro e w3 ⟨rfl, rfl⟩
    clear HDG
    go_wp2_with fail
    go_loop [5, 6] (fun n i => ∃ (k N : Nat), k ≤ t.size ∧ i = .int .i64 k ∧ n = .int .u64 (N : Int) ∧ N < 4294967296 ∧ Hid (N = valD 16 (t.data.toList.take k))) (fun _ i => t.size - (intOf i).toNat)
    case atStart => exact ⟨0, 0, Nat.zero_le _, rfl, rfl, by omega, Lib.hid rfl⟩
    case round =>
      obtain ⟨k, N, hk, rfl, rfl, hN, HN⟩ := hrel
      obtain ⟨NZ, hNZ⟩ : ∃ NZ : Int, NZ = (N : Int) := ⟨_, rfl⟩
      have hNZ0 : 0 ≤ NZ ∧ NZ < 4294967296 := by omega
      rw [← hNZ]
      have HNZ := Lib.hid hNZ
      have HNN := Lib.hid hN
      clear hNZ hN
      by_cases hlt : k < t.size
      · have hin : (k : Int) < (t.size : Int) := by omega
        have hds := isD_at HALL.out k hlt
        have HX := Lib.hid (hex_any9 t[k] w3)
        obtain ⟨D, hD⟩ : ∃ D, D = hexI t[k].toNat := ⟨_, rfl⟩
        rw [← hD] at HX hds
        have hV : Hid (((valD 16 (t.data.toList.take (k + 1)) : Nat) : Int) = NZ * 16 + D) := Lib.hid (by
          rw [take_snoc t k hlt, valD_snoc, ← HN.out, HNZ.out, ← hD]
          omega)
        have hMO := Lib.hid (valD_mono 16 (by decide) t.data.toList (k + 1))
        clear hD
        by_cases hbig : NZ * 16 + D < 4294967296
        · have hb2 : ¬ (4294967296 : Int) ≤ NZ * 16 + D := by omega
          go_wp2_with fail
          refine HX.out.mono ?_
          rintro e w4 ⟨rfl, rfl⟩
          go_wp2
          go_round
          case rel => exact ⟨k + 1, (NZ * 16 + D).toNat, by omega, by go_num, by first | (congr 1; omega) | (simp; omega), by omega, Lib.hid (by have := hV.out; omega)⟩
          case measure => simp [intOf]; omega
        · have hb2 : (4294967296 : Int) ≤ NZ * 16 + D := by omega
          have HRN : Hid (p32 T = none) := Lib.hid (by
            rw [HRES.out]
            apply p32_big
            have := hV.out
            have := hMO.out
            omega)
          go_wp2_with fail
          refine HX.out.mono ?_
          rintro e w4 ⟨rfl, rfl⟩
          go_wp2
          go_ret2
          exact ⟨by rw [HRN.out]; rfl, rfl⟩
      · have hin : ¬ (k : Int) < (t.size : Int) := by omega
        have hfin := HN.out
        rw [List.take_of_length_le (by rw [size_data]; omega)] at hfin
        have HRN : Hid (p32 T = some N) := Lib.hid (by rw [HRES.out, ← hfin]; exact p32_ok HNN.out)
        clear hfin
        go_wp2
        go_ret2
        exact ⟨by rw [HRN.out, HNZ.out]; rfl, rfl⟩

end Go.Proofs.YtlhdafinfgdlkaaGreatDoor
