/- The code's digits, bases and parts: digit, all, times, value, partValue, each to the plain one. -/
import Derived.Test.YtnecjofgjbfheaaGreatDoorShelf
import Derived.Lib.Strings
import Derived.BigQuiet
import Derived.Lib.Join
import Derived.Test.YtnecjofgjbfheaaGreatDoorProg
import Derived.Test.YtnecjofgjbfheaaGreatDoorKit
import Derived.Test.YtnecjofgjbfheaaGreatDoorPlain
import Derived.Test.YtnecjofgjbfheaaGreatDoorStr
import Derived.Test.YtnecjofgjbfheaaGreatDoorAsc4
import Derived.Test.YtnecjofgjbfheaaGreatDoorRow
import Derived.Test.YtnecjofgjbfheaaGreatDoorU32
import Derived.Test.YtnecjofgjbfheaaGreatDoorPct0
import Derived.Test.YtnecjofgjbfheaaGreatDoorPct3
import Derived.Test.YtnecjofgjbfheaaGreatDoorHst0
namespace Go.Proofs.YtnecjofgjbfheaaGreatDoor
open Go.RowKit Go.Proofs
set_option maxRecDepth 100000

def dgI (n : Int) : Int := if 48 ≤ n ∧ n ≤ 57 then n - 48 else if 97 ≤ n ∧ n ≤ 102 then n - 87 else 255

theorem dgI_bd (c : UInt8) : 0 ≤ dgI c.toNat ∧ dgI c.toNat ≤ 255 := by unfold dgI; have := c.toNat_lt; split <;> (try split) <;> omega

theorem dgI_no (b : Nat) (hb : b = 8 ∨ b = 10 ∨ b = 16) {c : UInt8} (hl : lowB c = c) : ((b : Int) ≤ dgI c.toNat) ↔ isD b c = false := by
  have h := byte_all (p := fun c => lowB c = c → (((8 : Int) ≤ dgI c.toNat) ↔ isD 8 c = false) ∧ (((10 : Int) ≤ dgI c.toNat) ↔ isD 10 c = false) ∧ (((16 : Int) ≤ dgI c.toNat) ↔ isD 16 c = false)) (by decide +kernel) c hl
  rcases hb with rfl | rfl | rfl
  · exact h.1
  · exact h.2.1
  · exact h.2.2

theorem dgI_val (b : Nat) (hb : b = 8 ∨ b = 10 ∨ b = 16) {c : UInt8} (hl : lowB c = c) (hd : isD b c = true) : dgI c.toNat = ((hexI c.toNat).toNat : Nat) := by
  have h := byte_all (p := fun c => lowB c = c → isD 16 c = true → dgI c.toNat = ((hexI c.toNat).toNat : Nat)) (by decide +kernel) c hl
  apply h
  unfold isD at hd ⊢
  simp only [Bool.and_eq_true, decide_eq_true_eq] at hd ⊢
  rcases hb with rfl | rfl | rfl <;> omega

theorem hdigit_any (c : UInt8) (w : World) :
    Calls Tryz.prog 147 #[.int .u8 c.toNat] w fun e w' => e = .returned (.int .u8 (dgI c.toNat)) ∧ w' = w := by
  have hc := c.toNat_lt
  obtain ⟨n, hn⟩ : ∃ n : Int, n = c.toNat := ⟨_, rfl⟩
  have h0 : 0 ≤ n ∧ n ≤ 255 := by omega
  rw [← hn]
  clear hn hc
  by_cases a1 : 48 ≤ n ∧ n ≤ 57
  · obtain ⟨b1, b2⟩ := a1
    have hv : dgI n = n - 48 := by unfold dgI; rw [if_pos ⟨b1, b2⟩]
    rw [hv]
    go_enter Tryz.func147, Tryz.ntmps147
    go_wp2
    go_ret
    exact ⟨rfl, rfl⟩
  · by_cases a3 : 97 ≤ n ∧ n ≤ 102
    · obtain ⟨b1, b2⟩ := a3
      have hv : dgI n = n - 87 := by unfold dgI; rw [if_neg a1, if_pos ⟨b1, b2⟩]
      have d1 : ¬ n ≤ 57 := by omega
      have e3 : n - 97 + 10 = n - 87 := by omega
      rw [hv]
      clear a1
      go_enter Tryz.func147, Tryz.ntmps147
      go_wp2
      go_ret
      exact ⟨by first | rfl | rw [e3], rfl⟩
    · have hv : dgI n = 255 := by unfold dgI; rw [if_neg a1, if_neg a3]
      rw [hv]
      by_cases c1 : 48 ≤ n
      · have c2 : ¬ n ≤ 57 := by omega
        by_cases c5 : 97 ≤ n
        · have c6 : ¬ n ≤ 102 := by omega
          clear a1 a3
          go_enter Tryz.func147, Tryz.ntmps147
          go_wp2
          go_ret
          exact ⟨rfl, rfl⟩
        · clear a1 a3
          go_enter Tryz.func147, Tryz.ntmps147
          go_wp2
          go_ret
          exact ⟨rfl, rfl⟩
      · have c5 : ¬ 97 ≤ n := by omega
        clear a1 a3
        go_enter Tryz.func147, Tryz.ntmps147
        go_wp2
        go_ret
        exact ⟨rfl, rfl⟩

theorem low_at {s : ByteArray} (hl : lowL s.data.toList = s.data.toList) (k : Nat) (h : k < s.size) : lowB s[k] = s[k] := by
  have := congrArg (fun l : List UInt8 => l[k]?) hl
  simp only [lowL, List.getElem?_map] at this
  rw [List.getElem?_eq_getElem (by rw [size_data]; exact h)] at this
  injection this

theorem allD_at (b : Int) (s : ByteArray) (k : Nat) (h : k < s.size) (hn : isD b s[k] = false) : allD b s.data.toList = false := by
  unfold allD
  rw [List.all_eq_false]
  exact ⟨s[k], by show s.data.toList[k]'(by rw [size_data]; exact h) ∈ _; exact List.getElem_mem _, by rw [hn]; decide⟩

theorem hall_any (b : Nat) (hb : b = 8 ∨ b = 10 ∨ b = 16) (s : ByteArray) (hs : s.size ≤ 1073741824) (hl : lowL s.data.toList = s.data.toList) (w : World) :
    Calls Tryz.prog 145 #[.int .u64 (b : Int), .string s] w fun e w' => e = .returned (.bool (allD b s.data.toList)) ∧ w' = w := by
  have hbb : (8 : Int) ≤ (b : Int) ∧ (b : Int) ≤ 16 := by omega
  have HL := Lib.hid hl
  have HB := Lib.hid hb
  clear hl hb
  go_enter Tryz.func145, Tryz.ntmps145
  go_wp2
  go_loop [8] (fun i => ∃ k : Nat, k ≤ s.size ∧ i = .int .i64 k ∧ allD b (s.data.toList.take k) = true) (fun i => s.size - (intOf i).toNat)
  case atStart => exact ⟨0, Nat.zero_le _, rfl, rfl⟩
  case round =>
    obtain ⟨k, hk, rfl, hno⟩ := hrel
    have HN := Lib.hid hno
    clear hno
    by_cases hlt : k < s.size
    · have hdb := dgI_bd s[k]
      have HQ := Lib.hid (dgI_no b HB.out (low_at HL.out k hlt))
      have HD := Lib.hid (hdigit_any s[k] w)
      obtain ⟨D, hD⟩ : ∃ D, D = dgI s[k].toNat := ⟨_, rfl⟩
      rw [← hD] at hdb HQ HD
      clear hD
      by_cases hq : (b : Int) ≤ D
      · have HF := Lib.hid (allD_at b s k hlt (HQ.out.1 hq))
        go_wp2_with fail
        refine HD.out.mono ?_
        rintro e w' ⟨rfl, rfl⟩
        go_wp2
        go_ret
        exact ⟨ret_bool HF.out.symm, rfl⟩
      · have HF : Hid (allD b (s.data.toList.take (k + 1)) = true) := Lib.hid (by
          rw [take_snoc s k hlt, allD_snoc, HN.out]
          cases h : isD b s[k]
          · exact absurd (HQ.out.2 h) hq
          · rfl)
        go_wp2_with fail
        refine HD.out.mono ?_
        rintro e w' ⟨rfl, rfl⟩
        go_wp2
        go_round
        case rel => exact ⟨k + 1, by omega, by go_num, HF.out⟩
        case measure => simp [intOf]; omega
    · have hfin := HN.out
      rw [List.take_of_length_le (by simp; omega)] at hfin
      have HF := Lib.hid hfin
      clear hfin
      go_wp2
      go_ret
      exact ⟨ret_bool HF.out.symm, rfl⟩

theorem htimes_any (b : Nat) (hb : b = 8 ∨ b = 10 ∨ b = 16) (n : Nat) (hn : n ≤ 4294967296) (w : World) :
    Calls Tryz.prog 146 #[.int .u64 (b : Int), .int .u64 (n : Int)] w fun e w' => e = .returned (.int .u64 ((n * b : Nat) : Int)) ∧ w' = w := by
  obtain ⟨z, hz⟩ : ∃ z : Int, z = (n : Int) := ⟨_, rfl⟩
  have hz0 : 0 ≤ z ∧ z ≤ 4294967296 := by omega
  rw [← hz]
  rcases hb with rfl | rfl | rfl
  · have HV : Hid (((n * 8 : Nat) : Int) = z * 8) := Lib.hid (by omega)
    clear hz hn
    go_enter Tryz.func146, Tryz.ntmps146
    go_wp2
    go_ret
    exact ⟨ret_int (by rw [HV.out] <;> first | done | omega), rfl⟩
  · have HV : Hid (((n * 10 : Nat) : Int) = z * 10) := Lib.hid (by omega)
    clear hz hn
    go_enter Tryz.func146, Tryz.ntmps146
    go_wp2
    go_ret
    exact ⟨ret_int (by rw [HV.out] <;> first | done | omega), rfl⟩
  · have HV : Hid (((n * 16 : Nat) : Int) = z * 16) := Lib.hid (by omega)
    clear hz hn
    go_enter Tryz.func146, Tryz.ntmps146
    go_wp2
    go_ret
    exact ⟨ret_int (by rw [HV.out] <;> first | done | omega), rfl⟩

def pvN (o : Option Nat) (lim : Nat) : Nat := match o with | none => 0 | some n => min n lim

def pvB (o : Option Nat) (lim : Nat) : Bool := match o with | none => false | some n => decide (n < lim)

def valP (b : Nat) (l : List UInt8) : Option Nat := if allD b l then some (valD b l) else none

theorem valP_yes {b : Nat} {l : List UInt8} (h : allD b l = true) : valP b l = some (valD b l) := by unfold valP; rw [if_pos h]

theorem valP_no {b : Nat} {l : List UInt8} (h : allD b l = false) : valP b l = none := by unfold valP; rw [if_neg (by rw [h]; decide)]

theorem min_step (b v lim d : Nat) (hb : 1 ≤ b) : min (min v lim * b + d) lim = min (v * b + d) lim := by
  by_cases h : v ≤ lim
  · rw [Nat.min_eq_left h]
  · have h1 : min v lim = lim := Nat.min_eq_right (by omega)
    have h2 : lim ≤ lim * b := Nat.le_mul_of_pos_right _ hb
    have h3 : lim * b ≤ v * b := Nat.mul_le_mul_right _ (by omega)
    rw [h1, Nat.min_eq_right (by omega), Nat.min_eq_right (by omega)]

theorem hvalue_any (b : Nat) (hb : b = 8 ∨ b = 10 ∨ b = 16) (s : ByteArray) (hs : s.size ≤ 1073741824) (hl : lowL s.data.toList = s.data.toList) (lim : Nat) (hlim : lim ≤ 4294967296) (w : World) :
    Calls Tryz.prog 138 #[.int .u64 (b : Int), .string s, .int .u64 (lim : Int)] w fun e w' => e = .returned (.tuple #[.int .u64 ((pvN (valP b s.data.toList) lim : Nat) : Int), .bool (pvB (valP b s.data.toList) lim)]) ∧ Drew w w' := by
  have hbb : (8 : Int) ≤ (b : Int) ∧ (b : Int) ≤ 16 := by omega
  have HA := Lib.hid (hall_any b hb s hs hl w)
  cases hall : allD b s.data.toList
  · rw [hall] at HA
    rw [valP_no hall]
    go_enter Tryz.func138, Tryz.ntmps138
    go_wp2_with fail
    refine HA.out.mono ?_
    rintro e w' ⟨rfl, rfl⟩
    go_wp2
    go_ret2
    exact ⟨rfl, ⟨0, rfl⟩⟩
  · rw [hall] at HA
    rw [valP_yes hall]
    have HEACH : Hid (∀ k (h : k < s.size), dgI s[k].toNat = ((hexI s[k].toNat).toNat : Nat)) := Lib.hid (fun k h => by
      refine dgI_val b hb (low_at hl k h) ?_
      cases hd : isD b s[k]
      · rw [allD_at b s k h hd] at hall
        exact absurd hall (by decide)
      · rfl)
    have HT := Lib.hid (fun n (hn : n ≤ 4294967296) W => htimes_any b hb n hn W)
    have HB := Lib.hid hb
    obtain ⟨L, hL⟩ : ∃ L : Int, L = (lim : Int) := ⟨_, rfl⟩
    have hL0 : 0 ≤ L ∧ L ≤ 4294967296 := by omega
    rw [← hL]
    have HLL := Lib.hid hL
    have HLM := Lib.hid hlim
    clear hall hl hb hL hlim
    go_enter Tryz.func138, Tryz.ntmps138
    go_wp2_with fail
    refine HA.out.mono ?_
    rintro e w' ⟨rfl, rfl⟩
    go_wp2_with fail
    go_loopw [6, 15] (fun n i wr => ∃ (k : Nat) (N : Int), k ≤ s.size ∧ i = .int .i64 k ∧ n = .int .u64 N ∧ Hid (N = (min (valD b (s.data.toList.take k)) lim : Nat)) ∧ Drew w' wr) (fun _ i _ => s.size - (intOf i).toNat)
    case atStart => exact ⟨0, 0, Nat.zero_le _, rfl, rfl, Lib.hid (by simp [valD]), ⟨0, rfl⟩⟩
    case round =>
      obtain ⟨k, N, hk, rfl, rfl, HN, hdr⟩ := hrel
      have HDR := Lib.hid hdr
      clear hdr
      have hN0 : 0 ≤ N ∧ N ≤ L := by have := HN.out; have := HLL.out; omega
      by_cases hlt : k < s.size
      · have hin : (k : Int) < (s.size : Int) := by omega
        have hdb := dgI_bd s[k]
        obtain ⟨D, hD⟩ : ∃ D, D = dgI s[k].toNat := ⟨_, rfl⟩
        have HDG := Lib.hid (fun W => hdigit_any s[k] W)
        rw [← hD] at hdb HDG
        obtain ⟨m, hm⟩ : ∃ m : Nat, (m : Int) = N := ⟨N.toNat, by omega⟩
        have HTT := Lib.hid (fun W => HT.out m (by have := HLM.out; have := HLL.out; omega) W)
        rw [hm] at HTT
        obtain ⟨T, hT⟩ : ∃ T : Int, T = ((m * b : Nat) : Int) := ⟨_, rfl⟩
        rw [← hT] at HTT
        have hT0 : 0 ≤ T ∧ T ≤ 68719476736 := by
          rw [hT]
          have h1 : m ≤ 4294967296 := by have := HLM.out; have := HLL.out; omega
          have h2 : m * b ≤ 4294967296 * 16 := Nat.mul_le_mul h1 (by omega)
          omega
        have HNX : Hid (min (T + D) L = (min (valD b (s.data.toList.take (k + 1))) lim : Nat)) := Lib.hid (by
          rw [take_snoc s k hlt, valD_snoc, ← min_step b (valD b (s.data.toList.take k)) lim _ (by omega), hT, hD, HEACH.out k hlt, HLL.out]
          have h1 := HN.out
          have : m = min (valD b (s.data.toList.take k)) lim := by omega
          rw [this]
          omega)
        clear hm hT hD
        go_wp2_with fail
        go_quiet (first | (go_at_call 146; exact Calls.quiet_of_same (HTT.out _)) | (go_at_call 147; exact Calls.quiet_of_same (HDG.out _)))
        go_wp2
        go_roundw
        case rel => exact ⟨k + 1, min (T + D) L, by omega, by go_num, by first | rfl | (congr 1), HNX, Drew.more HDR.out _⟩
        case measure => simp [intOf]; omega
      · have hfin := HN.out
        rw [List.take_of_length_le (by simp; omega)] at hfin
        have hLL := HLL.out
        have HF1 : Hid (N = ((pvN (some (valD b s.data.toList)) lim : Nat) : Int)) := Lib.hid hfin
        have HF2 : Hid (decide (N < L) = pvB (some (valD b s.data.toList)) lim) := Lib.hid (by
          unfold pvB
          rw [Bool.eq_iff_iff, decide_eq_true_eq, decide_eq_true_eq]
          omega)
        clear hfin hLL
        go_wp2
        go_ret2
        exact ⟨by rw [← HF1.out, ← HF2.out]; rfl, HDR.out⟩

/-! partValue -/
theorem hexPre (l : List UInt8) (hl : lowL l = l) : Lib.hasPrefix l [48, 120] = xpre l := by
  unfold Lib.hasPrefix xpre
  match l, hl with
  | [], _ => rfl
  | [a], _ => simp [List.isPrefixOf]
  | a :: b :: r, hl =>
    have hb : lowB b = b := by
      have := congrArg (fun l : List UInt8 => l[1]?) hl
      simpa [lowL] using this
    have h1 : ((48 : UInt8) == a) = decide ((a.toNat : Int) = 48) := byte_all (p := fun a => ((48 : UInt8) == a) = decide ((a.toNat : Int) = 48)) (by decide +kernel) a
    have h2 : ((120 : UInt8) == b) = (decide ((b.toNat : Int) = 120) || decide ((b.toNat : Int) = 88)) := byte_all (p := fun b => lowB b = b → ((120 : UInt8) == b) = (decide ((b.toNat : Int) = 120) || decide ((b.toNat : Int) = 88))) (by decide +kernel) b hb
    simp only [List.isPrefixOf, h1, h2, List.getD_cons_zero, List.getD_cons_succ, Bool.and_true]
    simp

theorem hexCut (l : List UInt8) (hl : lowL l = l) : Lib.trimPrefix l [48, 120] = if xpre l then l.drop 2 else l := by
  unfold Lib.trimPrefix
  rw [hexPre l hl]
  rfl

theorem low_drop2 {l : List UInt8} (hl : lowL l = l) (n : Nat) : lowL (l.drop n) = l.drop n := by rw [← low_drop, hl]

theorem numP_x {p : List UInt8} (h : xpre p = true) : numP p = valP 16 (p.drop 2) := by unfold numP; rw [if_pos h]; rfl

theorem numP_o {p : List UInt8} (h : xpre p = false) (h2 : opre p = true) : numP p = valP 8 p := by unfold numP; rw [if_neg (by rw [h]; decide), if_pos h2]; rfl

theorem numP_d {p : List UInt8} (h : xpre p = false) (h2 : opre p = false) (h0 : p ≠ []) : numP p = valP 10 p := by
  unfold numP valP
  rw [if_neg (by rw [h]; decide), if_neg (by rw [h2]; decide)]
  cases hd : allD 10 p
  · rw [if_neg (by rintro ⟨_, h⟩; exact absurd h (by decide))]
    rfl
  · rw [if_pos ⟨h0, rfl⟩]
    rfl

theorem nil_size {s : ByteArray} (h : s.size = 0) : s.data.toList = [] := List.eq_nil_of_length_eq_zero (by rw [size_data]; exact h)

theorem mk_size (l : List UInt8) : (⟨l.toArray⟩ : ByteArray).size = l.length := rfl

theorem hpart_any (s : ByteArray) (hs : s.size ≤ 1073741824) (hl : lowL s.data.toList = s.data.toList) (lim : Nat) (hlim : lim ≤ 4294967296) (w : World) :
    Calls Tryz.prog 129 #[.string s, .int .u64 (lim : Int)] w fun e w' => e = .returned (.tuple #[.int .u64 ((pvN (numP s.data.toList) lim : Nat) : Int), .bool (pvB (numP s.data.toList) lim)]) ∧ Drew w w' := by
  by_cases h0 : s.size = 0
  · have hn := nil_size h0
    have hse : s = ByteArray.empty := by
      cases s with | mk a => cases a with | mk l => simp at hn; subst hn; rfl
    subst hse
    go_enter Tryz.func129, Tryz.ntmps129
    go_wp2
    go_ret2
    exact ⟨rfl, ⟨0, rfl⟩⟩
  · have hne : s.data.toList ≠ [] := by
      intro h
      have := congrArg List.length h
      rw [size_data] at this
      exact h0 this
    have hse := emptyNo h0
    have HC := Lib.hid (Tryz.strings_CutPrefix s ⟨#[48, 120]⟩ w)
    rw [show (⟨#[48, 120]⟩ : ByteArray).data.toList = [48, 120] from rfl, hexPre _ hl, hexCut _ hl] at HC
    cases hx : xpre s.data.toList
    · rw [hx] at HC
      simp only [if_false, Bool.false_eq_true] at HC
      cases ho : opre s.data.toList
      · have HV := Lib.hid (hvalue_any 10 (by omega) s hs hl lim hlim w)
        rw [← numP_d hx ho hne] at HV
        have ho2 := ho
        unfold opre at ho2
        rw [size_data] at ho2
        by_cases hz : 2 ≤ s.size
        · have hg := getD_at s 0 (by omega)
          rw [hg] at ho2
          have hs0 : ((s[0].toNat : Int) == 48) = false := by
            rw [beq_eq_false_iff_ne]
            intro h
            rw [decide_eq_true hz, decide_eq_true h] at ho2
            exact absurd ho2 (by decide)
          have hz1 : (1 : Int) < (s.size : Int) := by omega
          have hz0 : (0 : Int) < (s.size : Int) := by omega
          have hi0 : 0 < s.size := by omega
          clear ho2 hg ho hx hl hne
          go_enter Tryz.func129, Tryz.ntmps129
          go_wp2_with fail
          refine HC.out.mono ?_
          rintro e w' ⟨rfl, rfl⟩
          go_wp2_with fail
          refine HV.out.mono ?_
          rintro e w' ⟨rfl, hd⟩
          go_wp2
          go_ret2
          exact ⟨rfl, hd⟩
        · have hz1 : ¬ (1 : Int) < (s.size : Int) := by omega
          clear ho2 ho hx hl hne
          go_enter Tryz.func129, Tryz.ntmps129
          go_wp2_with fail
          refine HC.out.mono ?_
          rintro e w' ⟨rfl, rfl⟩
          go_wp2_with fail
          refine HV.out.mono ?_
          rintro e w' ⟨rfl, hd⟩
          go_wp2
          go_ret2
          exact ⟨rfl, hd⟩
      · have HV := Lib.hid (hvalue_any 8 (by omega) s hs hl lim hlim w)
        rw [← numP_o hx ho] at HV
        have ho2 := ho
        unfold opre at ho2
        rw [size_data] at ho2
        simp only [Bool.and_eq_true, decide_eq_true_eq] at ho2
        obtain ⟨hz, h48⟩ := ho2
        rw [getD_at s 0 (by omega)] at h48
        have hs0 : ((s[0].toNat : Int) == 48) = true := beq_iff_eq.2 h48
        have hz1 : (1 : Int) < (s.size : Int) := by omega
        have hz0 : (0 : Int) < (s.size : Int) := by omega
        have hi0 : 0 < s.size := by omega
        clear ho hx hl hne h48
        go_enter Tryz.func129, Tryz.ntmps129
        go_wp2_with fail
        refine HC.out.mono ?_
        rintro e w' ⟨rfl, rfl⟩
        go_wp2_with fail
        refine HV.out.mono ?_
        rintro e w' ⟨rfl, hd⟩
        go_wp2
        go_ret2
        exact ⟨rfl, hd⟩
    · rw [hx] at HC
      simp only [if_true] at HC
      have HV := Lib.hid (hvalue_any 16 (by omega) ⟨(s.data.toList.drop 2).toArray⟩ (by rw [mk_size, List.length_drop, size_data]; omega) (low_drop2 hl 2) lim hlim w)
      rw [show (⟨(s.data.toList.drop 2).toArray⟩ : ByteArray).data.toList = s.data.toList.drop 2 from rfl, ← numP_x hx] at HV
      clear hx hl hne
      go_enter Tryz.func129, Tryz.ntmps129
      go_wp2_with fail
      refine HC.out.mono ?_
      rintro e w' ⟨rfl, rfl⟩
      go_wp2_with fail
      refine HV.out.mono ?_
      rintro e w' ⟨rfl, hd⟩
      go_wp2
      go_ret2
      exact ⟨rfl, hd⟩

/-- hasForbidden. -/
def anyF (l : List UInt8) : Bool := l.any forbB

theorem forb_at (s : ByteArray) (k : Nat) (h : k < s.size) (hn : forbB s[k] = true) : anyF s.data.toList = true := by
  unfold anyF
  rw [List.any_eq_true]
  exact ⟨s[k], by show s.data.toList[k]'(by rw [size_data]; exact h) ∈ _; exact List.getElem_mem _, hn⟩

theorem forb_snoc (s : ByteArray) (k : Nat) (h : k < s.size) (h1 : anyF (s.data.toList.take k) = false) (h2 : forbB s[k] = false) : anyF (s.data.toList.take (k + 1)) = false := by
  unfold anyF at h1 ⊢
  rw [take_snoc s k h, List.any_append, h1]
  simp [h2]

theorem strL_mk (p : List UInt8) : strL p = .string ⟨p.toArray⟩ := rfl

theorem split_at_last (l : List UInt8) (m : Nat) (h : (splitL l 46).length = m + 1) : ∃ p, (splitL l 46)[m]? = some p ∧ (splitL l 46).getLast? = some p := by
  obtain ⟨xs, hxs⟩ : ∃ xs, xs = splitL l 46 := ⟨_, rfl⟩
  rw [← hxs] at h ⊢
  clear hxs
  refine ⟨xs[m]'(by omega), List.getElem?_eq_getElem (by omega), ?_⟩
  have e : xs.length - 1 = m := by omega
  rw [List.getLast?_eq_getElem?, e]
  exact List.getElem?_eq_getElem (by omega)

theorem sliceAt_less {w : World} {b off c m : Nat} {xs : List Value} (h : SliceAt w (.slice (some ⟨b, off, none⟩) xs.length c) xs) (hm : m ≤ xs.length) :
    SliceAt w (.slice (if c = 0 then some ⟨b, off, none⟩ else some ⟨b, off, none⟩) m c) (xs.take m) := by
  obtain ⟨a, c2, e, h2⟩ := h
  injection e with e1 e2 e3
  subst e1 e3
  refine ⟨some ⟨b, off, none⟩, c, by rw [List.length_take, Nat.min_eq_left hm]; simp, ?_⟩
  rcases h2 with rfl | ⟨b2, o2, e, h2⟩
  · left; simp
  · right
    injection e with e
    injection e with e1 e2
    subst e1 e2
    refine ⟨_, _, rfl, fun j x hj => h2 j x ?_⟩
    rw [List.getElem?_take] at hj
    split at hj
    · exact hj
    · exact absurd hj (by simp)

theorem hparts_any (s : ByteArray) (hs : s.size ≤ 1073741824) (w : World) :
    Calls Tryz.prog 110 #[.string s] w fun e w' => (∃ a c, e = .returned (.slice a (partsL s.data.toList).length c) ∧ (partsL s.data.toList).length ≤ c ∧ SliceAt w' (.slice a (partsL s.data.toList).length c) ((partsL s.data.toList).map strL)) ∧ Below w.heap.size w w' := by
  have HS := Lib.hid (split_any s 46 hs w)
  have hlen := splitL_len s.data.toList 46
  rw [size_data] at hlen
  have hpos := split_len s.data.toList 46
  obtain ⟨m, hm⟩ : ∃ m, (splitL s.data.toList 46).length = m + 1 := ⟨(splitL s.data.toList 46).length - 1, by omega⟩
  obtain ⟨p, hp, hlast⟩ := split_at_last _ m hm
  have hmz : m ≤ 1073741824 := by omega
  have HP : Hid (partsL s.data.toList = if 1 < m + 1 ∧ some p = some [] then (splitL s.data.toList 46).dropLast else splitL s.data.toList 46) := Lib.hid (by unfold partsL; rw [hm, hlast])
  rw [hm] at HS
  have HL := Lib.hid hm
  obtain ⟨xs, hxs⟩ : ∃ xs, xs = splitL s.data.toList 46 := ⟨_, rfl⟩
  rw [← hxs] at HS HP HL hp
  have HPP := Lib.hid hp
  clear hxs hm hlen hpos hlast hp
  go_enter Tryz.func110, Tryz.ntmps110
  go_wp2_with fail
  refine HS.out.mono ?_
  rintro e w1 ⟨⟨v, rfl, hown⟩, hb⟩
  have hsl := SliceAt.own hown
  have HB := Lib.hid hb
  obtain ⟨a, c, rfl⟩ := own_len hown
  have hcap : m + 1 ≤ c := by
    rcases hown.2 with ⟨_, h⟩ | ⟨g, cap, cur, e, _, _, hnc, _⟩
    · omega
    · injection e with _ _ e
      omega
  have hc0 : ¬ c = 0 := by omega
  have hmc : (m : Int) ≤ (c : Int) := by omega
  have hne : xs.map strL ≠ [] := by
    intro h
    have := congrArg List.length h
    rw [List.length_map, HL.out] at this
    simp at this
  obtain ⟨b, off, c2, e, hcell⟩ := SliceAt.at hsl hne
  injection e with e1 e2 e3
  subst e1 e3
  have hx := hcell m (strL p) (by rw [List.getElem?_map, HPP.out]; rfl)
  rw [strL_mk] at hx
  have HSL := Lib.hid hsl
  clear hsl hcell hne e2 hb hown
  obtain ⟨pt, hpt⟩ : ∃ pt : ByteArray, pt = ⟨p.toArray⟩ := ⟨_, rfl⟩
  rw [← hpt] at hx
  by_cases hm0 : 0 < m
  · have hz0 : (0 : Int) < (m : Int) := by omega
    by_cases he : p = []
    · have hpe := emptyYes (t := pt) (by rw [hpt, he]; rfl)
      clear hpt
      go_wp2
      go_ret
      have hl := HL.out
      have hh := sliceAt_less (m := m) (xs := xs.map strL) (by rw [List.length_map, hl]; exact HSL.out) (by rw [List.length_map]; omega)
      rw [if_neg hc0] at hh
      have e1 : partsL s.data.toList = xs.take m := by rw [HP.out, if_pos ⟨by omega, by rw [he]⟩, List.dropLast_eq_take, hl, Nat.add_sub_cancel]
      have e2 : (xs.take m).length = m := by rw [List.length_take, hl]; omega
      rw [e1, e2, List.map_take]
      exact ⟨⟨_, _, rfl, by omega, hh⟩, HB.out⟩
    · have hpe := emptyNo (t := pt) (by rw [hpt, mk_size]; exact fun h => he (List.eq_nil_of_length_eq_zero h))
      clear hpt
      go_wp2
      go_ret
      have e1 : partsL s.data.toList = xs := by rw [HP.out, if_neg (by rintro ⟨_, h⟩; injection h with h; exact he h)]
      rw [e1, HL.out]
      exact ⟨⟨_, _, rfl, hcap, HSL.out⟩, HB.out⟩
  · have hz0 : ¬ (0 : Int) < (m : Int) := by omega
    clear hpt
    go_wp2
    go_ret
    have e1 : partsL s.data.toList = xs := by rw [HP.out, if_neg (by rintro ⟨h, _⟩; omega)]
    rw [e1, HL.out]
    exact ⟨⟨_, _, rfl, hcap, HSL.out⟩, HB.out⟩

theorem drew_drew {w w1 w2 : World} (h : Drew w w1) (h2 : Drew w1 w2) : Drew w w2 := by
  obtain ⟨m, rfl⟩ := h2
  exact Drew.more h m

def optN (o : Option Nat) : Nat := o.getD 0

theorem or_u32 (a b : Nat) (ha : a < 4294967296) (hb : b < 4294967296) : bits .or .u32 (a : Int) (b : Int) = ((a ||| b : Nat) : Int) := by
  have h := iw_or (UInt32.ofNat a) (UInt32.ofNat b)
  unfold iw at h
  rw [UInt32.toNat_ofNat_of_lt' ha, UInt32.toNat_ofNat_of_lt' hb, UInt32.toNat_or, UInt32.toNat_ofNat_of_lt' ha, UInt32.toNat_ofNat_of_lt' hb] at h
  exact h

theorem or_add (s h n l : Nat) (hn : n < 256) (hl : l < 2 ^ s) : (h * 2 ^ (s + 8) + l) ||| (n * 2 ^ s) = h * 2 ^ (s + 8) + l + n * 2 ^ s := by
  have e1 : l < 2 ^ (s + 8) := Nat.lt_of_lt_of_le hl (Nat.pow_le_pow_right (by decide) (by omega))
  have e2 : 2 ^ s * n + l < 2 ^ (s + 8) := by
    have h1 : 2 ^ s * n ≤ 2 ^ s * 255 := Nat.mul_le_mul_left _ (by omega)
    have h2 : 2 ^ (s + 8) = 2 ^ s * 256 := by rw [Nat.pow_add]
    rw [h2]
    omega
  rw [Nat.mul_comm h, Nat.mul_comm n]
  conv => lhs; rw [Nat.two_pow_add_eq_or_of_lt e1, Nat.or_assoc, Nat.or_comm l, ← Nat.two_pow_add_eq_or_of_lt hl, ← Nat.two_pow_add_eq_or_of_lt e2]
  omega

theorem sumP_head (m : Nat) (p : List UInt8) {r : List (List UInt8)} (hr : r ≠ []) : sumP m (p :: r) = match numP p with | none => none | some n => if n ≤ 255 then (sumP (m - 1) r).map (n * 256 ^ (m - 1) + ·) else none := by
  match r, hr with
  | q :: r, _ => exact sumP_more m p q r

theorem sum_bad (last : List UInt8) : ∀ (ps : List (List UInt8)) (m : Nat), sumP (m - ps.length) [last] = none → sumP m (ps ++ [last]) = none
  | [], m, h => h
  | p :: r, m, h => by
    rw [List.cons_append, sumP_head m p (by simp)]
    cases numP p with
    | none => rfl
    | some n =>
      simp only
      rw [sum_bad last r (m - 1) (by rw [List.length_cons] at h; rw [← h]; congr 1; omega)]
      split <;> rfl

theorem pow_wrap : ∀ k ≤ 3, IntKind.u64.wrap ((2 : Int) ^ (8 * (4 - k))) = ((256 ^ (4 - k) : Nat) : Int) := by decide

theorem pow_le4 (k : Nat) : 256 ^ (4 - k) ≤ 4294967296 := Nat.pow_le_pow_right (by decide : 256 > 0) (by omega : 4 - k ≤ 4)

theorem pow_two (k : Nat) : 256 ^ k = 2 ^ (8 * k) := by rw [Nat.pow_mul]

theorem part_next {ps : List (List UInt8)} {p last : List UInt8} {j h n : Nat} {T : Option Nat} (hj : j ≤ 2) (hp : ps[j]? = some p) (hn : numP p = some n) (hn2 : n < 256)
    (ht : T = (sumP (4 - j) (ps.drop j ++ [last])).map (h * 256 ^ (4 - j) + ·)) : T = (sumP (4 - (j + 1)) (ps.drop (j + 1) ++ [last])).map ((h * 256 + n) * 256 ^ (4 - (j + 1)) + ·) := by
  obtain ⟨hl, rfl⟩ := List.getElem?_eq_some_iff.1 hp
  rw [ht, List.drop_eq_getElem_cons hl, List.cons_append, sumP_head _ _ (by simp), hn]
  simp only
  rw [if_pos (by omega), Option.map_map]
  have e : 4 - j - 1 = 4 - (j + 1) := by omega
  have e2 : 256 ^ (4 - j) = 256 * 256 ^ (4 - (j + 1)) := by
    have : 4 - j = (4 - (j + 1)) + 1 := by omega
    rw [this, Nat.pow_succ, Nat.mul_comm]
  rw [e, e2]
  congr 1
  funext x
  simp only [Function.comp_apply, Nat.add_mul, Nat.mul_assoc]
  omega

theorem part_bad {ps : List (List UInt8)} {p last : List UInt8} {j h : Nat} {T : Option Nat} (hp : ps[j]? = some p) (hn : pvB (numP p) 256 = false)
    (ht : T = (sumP (4 - j) (ps.drop j ++ [last])).map (h * 256 ^ (4 - j) + ·)) : T = none := by
  obtain ⟨hl, rfl⟩ := List.getElem?_eq_some_iff.1 hp
  rw [ht, List.drop_eq_getElem_cons hl, List.cons_append, sumP_head _ _ (by simp)]
  cases h2 : numP ps[j] with
  | none => rfl
  | some n =>
    rw [h2] at hn
    simp only [pvB, decide_eq_false_iff_not] at hn
    simp only
    rw [if_neg (by omega)]
    rfl

theorem pvB_yes {o : Option Nat} {lim : Nat} (h : pvB o lim = true) : ∃ n, o = some n ∧ n < lim ∧ pvN o lim = n := by
  cases o with
  | none => simp [pvB] at h
  | some n =>
    simp only [pvB, decide_eq_true_eq] at h
    exact ⟨n, rfl, h, by simp only [pvN]; omega⟩

theorem strings_at {w w' : World} {a : Option Addr} {k c : Nat} {ps : List (List UInt8)} (h : SliceAt w (.slice a k c) (ps.map strL)) (hd : Drew w w') {j : Nat} {p : List UInt8} (hp : ps[j]? = some p) :
    ∃ b off, a = some ⟨b, off, none⟩ ∧ w'.cell? ⟨b, off + j, none⟩ = some (.string ⟨p.toArray⟩) := by
  obtain ⟨a2, c2, e, h2⟩ := h
  injection e with e1 e2 e3
  subst e1 e3
  rcases h2 with h2 | ⟨b, off, rfl, h2⟩
  · have := congrArg (fun l : List Value => l[j]?) h2
    simp [hp] at this
  · obtain ⟨m, rfl⟩ := hd
    exact ⟨b, off, rfl, h2 j _ (by rw [List.getElem?_map, hp]; rfl)⟩

theorem or_step (h n nl j k : Nat) (hj : j < k) (hk : k ≤ 3) (hh : h < 256 ^ j) (hn : n < 256) (hl : nl < 256 ^ (4 - k)) :
    bits .or .u32 ((h * 256 ^ (4 - j) + nl : Nat) : Int) ((n : Int) * 2 ^ (8 * (3 - j)) % 4294967296) = (((h * 256 + n) * 256 ^ (4 - (j + 1)) + nl : Nat) : Int) ∧ h * 256 + n < 256 ^ (j + 1) := by
  have e0 : 4 - (j + 1) = 3 - j := by omega
  have hp : 256 ^ (4 - k) ≤ 256 ^ (3 - j) := Nat.pow_le_pow_right (by decide) (by omega)
  have hl2 : nl < 2 ^ (8 * (3 - j)) := by rw [← pow_two]; omega
  have e1 : 256 ^ (4 - j) = 2 ^ (8 * (3 - j) + 8) := by rw [pow_two]; congr 1; omega
  have e2 : 2 ^ (8 * (3 - j) + 8) = 2 ^ (8 * (3 - j)) * 256 := by rw [Nat.pow_add]
  have hp3 : 2 ^ (8 * (3 - j)) ≤ 16777216 := Nat.pow_le_pow_right (n := 2) (by decide) (by omega : 8 * (3 - j) ≤ 24)
  have h3 : h + 1 ≤ 256 ^ j := hh
  have hall : 256 ^ j * 256 ^ (4 - j) = 4294967296 := by
    rw [← Nat.pow_add]
    have : j + (4 - j) = 4 := by omega
    rw [this]
  have hm : (h + 1) * 256 ^ (4 - j) ≤ 4294967296 := by rw [← hall]; exact Nat.mul_le_mul_right _ h3
  rw [Nat.add_mul, Nat.one_mul] at hm
  have hnl : nl < 256 ^ (4 - j) := by rw [e1, e2]; omega
  have hn2 : n * 2 ^ (8 * (3 - j)) ≤ 255 * 2 ^ (8 * (3 - j)) := Nat.mul_le_mul_right _ (by omega)
  have e3 : (n : Int) * 2 ^ (8 * (3 - j)) % 4294967296 = ((n * 2 ^ (8 * (3 - j)) : Nat) : Int) := by
    have : ((n * 2 ^ (8 * (3 - j)) : Nat) : Int) = (n : Int) * 2 ^ (8 * (3 - j)) := by simp
    rw [← this]
    omega
  refine ⟨?_, ?_⟩
  · rw [e3, or_u32 _ _ (by omega) (by omega), e1, or_add _ h n nl hn hl2, e0, pow_two, Nat.add_mul, Nat.mul_assoc h, e2, Nat.mul_comm 256]
    congr 1
    omega
  · rw [Nat.pow_succ]
    omega

theorem hcompose_any (last : ByteArray) (ps : List (List UInt8)) (k : Nat) (hk : ps.length = k) (hk3 : k ≤ 3) (a : Option Addr) (c : Nat) (w : World) (hs : last.size ≤ 1073741824) (hl : lowL last.data.toList = last.data.toList)
    (hps : ∀ p ∈ ps, lowL p = p ∧ p.length ≤ 1073741824) (hv : SliceAt w (.slice a k c) (ps.map strL)) :
    Calls Tryz.prog 111 #[.string last, .slice a k c] w fun e w' => e = .returned (.tuple #[.int .u32 ((optN (sumP 4 (ps ++ [last.data.toList])) : Nat) : Int), .bool (sumP 4 (ps ++ [last.data.toList])).isSome]) ∧ Drew w w' := by
  have HP := Lib.hid (hpart_any last hs hl (256 ^ (4 - k)) (pow_le4 k) w)
  rw [← pow_wrap k hk3] at HP
  obtain ⟨T, hT⟩ : ∃ T, T = sumP 4 (ps ++ [last.data.toList]) := ⟨_, rfl⟩
  rw [← hT]
  have HV := Lib.hid hv
  have HK := Lib.hid hk
  have HPS := Lib.hid hps
  cases hB : pvB (numP last.data.toList) (256 ^ (4 - k))
  · have hno : T = none := by
      rw [hT]
      apply sum_bad
      rw [hk, sumP_one]
      cases h2 : numP last.data.toList with
      | none => rfl
      | some n =>
        rw [h2] at hB
        simp only [pvB, decide_eq_false_iff_not] at hB
        simp only
        rw [if_neg hB]
    rw [hB] at HP
    obtain ⟨z0, hz0⟩ : ∃ z0 : Int, z0 = (pvN (numP last.data.toList) (256 ^ (4 - k)) : Nat) := ⟨_, rfl⟩
    rw [← hz0] at HP
    clear hv hk hps hT hB hz0 hs hl
    subst hno
    go_enter Tryz.func111, Tryz.ntmps111
    go_wp2_with fail
    refine HP.out.mono ?_
    rintro e w1 ⟨rfl, hd⟩
    go_wp2
    go_ret2
    exact ⟨rfl, hd⟩
  · obtain ⟨nl, hnl, hlt, hpv⟩ := pvB_yes hB
    rw [hB, hpv] at HP
    have hnl32 : nl < 4294967296 := Nat.lt_of_lt_of_le hlt (pow_le4 k)
    have HT0 : Hid (T = (sumP (4 - 0) (ps.drop 0 ++ [last.data.toList])).map (0 * 256 ^ (4 - 0) + ·)) := Lib.hid (by rw [hT]; simp)
    have HEND : Hid (sumP (4 - k) [last.data.toList] = some nl) := Lib.hid (by rw [sumP_one, hnl]; simp only; rw [if_pos hlt])
    have HLT := Lib.hid hlt
    have HNL := Lib.hid hnl32
    obtain ⟨z0, hz0⟩ : ∃ z0 : Int, z0 = (nl : Int) := ⟨_, rfl⟩
    rw [← hz0] at HP
    have hz : 0 ≤ z0 ∧ z0 < 4294967296 := by omega
    have HZ := Lib.hid hz0
    clear hv hk hps hT hB hz0 hs hl hpv hnl hlt hnl32
    go_enter Tryz.func111, Tryz.ntmps111
    go_wp2_with fail
    refine HP.out.mono ?_
    rintro e w1 ⟨rfl, hd⟩
    have HD := Lib.hid hd
    clear hd HP
    go_wp2_with fail
    go_loopw [8, 29] (fun A i wr => ∃ (j : Nat) (h : Nat) (z : Int), j ≤ k ∧ i = .int .i64 j ∧ A = .int .u32 z ∧ Hid (z = ((h * 256 ^ (4 - j) + nl : Nat) : Int)) ∧ Hid (h < 256 ^ j) ∧ Hid (T = (sumP (4 - j) (ps.drop j ++ [last.data.toList])).map (h * 256 ^ (4 - j) + ·)) ∧ Hid (Drew w wr)) (fun _ i _ => k - (intOf i).toNat)
    case atStart => exact ⟨0, 0, z0, Nat.zero_le _, rfl, rfl, Lib.hid (by rw [HZ.out]; simp), Lib.hid (by decide), HT0, HD⟩
    case round =>
      obtain ⟨j, h, z, hj, rfl, rfl, HZJ, HH, HTJ, HDJ⟩ := hrel
      by_cases hlt : j < k
      · have hlz : (j : Int) < (k : Int) := by omega
        obtain ⟨p, hp⟩ : ∃ p, ps[j]? = some p := ⟨_, List.getElem?_eq_getElem (by rw [HK.out]; exact hlt)⟩
        obtain ⟨b, off, rfl, hcell⟩ := strings_at HV.out HDJ.out hp
        have hpp := HPS.out p (List.mem_of_getElem? hp)
        obtain ⟨pt, hpt⟩ : ∃ pt : ByteArray, pt = ⟨p.toArray⟩ := ⟨_, rfl⟩
        have HPV := Lib.hid (fun W => hpart_any pt (by rw [hpt]; exact hpp.2) (by rw [hpt]; exact hpp.1) 256 (by decide) W)
        have e1 : pt.data.toList = p := by rw [hpt]
        rw [e1] at HPV
        rw [← hpt] at hcell
        cases hQ : pvB (numP p) 256
        · have HNO := Lib.hid (part_bad hp hQ HTJ.out)
          rw [hQ] at HPV
          obtain ⟨z1, hz1⟩ : ∃ z1 : Int, z1 = (pvN (numP p) 256 : Nat) := ⟨_, rfl⟩
          have HPV2 : Hid (∀ W, Calls Tryz.prog 129 #[.string pt, .int .u64 256] W fun e w' => e = .returned (.tuple #[.int .u64 z1, .bool false]) ∧ Drew W w') := Lib.hid (fun W => by rw [hz1]; exact HPV.out W)
          clear HPV hz1 hQ hp hpp hpt e1
          go_wp2_with fail
          refine (HPV2.out _).mono ?_
          rintro e w2 ⟨rfl, hd2⟩
          go_wp2
          go_ret2
          refine ⟨by rw [HNO.out]; rfl, ?_⟩
          exact drew_drew HDJ.out hd2
        · obtain ⟨n, hn, hn2, hpv⟩ := pvB_yes hQ
          have HNX := Lib.hid (part_next (by omega) hp hn hn2 HTJ.out)
          rw [hQ, hpv] at HPV
          obtain ⟨z1, hz1⟩ : ∃ z1 : Int, z1 = (n : Int) := ⟨_, rfl⟩
          have HPV2 : Hid (∀ W, Calls Tryz.prog 129 #[.string pt, .int .u64 256] W fun e w' => e = .returned (.tuple #[.int .u64 z1, .bool true]) ∧ Drew W w') := Lib.hid (fun W => by rw [hz1]; exact HPV.out W)
          have hzb : 0 ≤ z1 ∧ z1 < 256 := by omega
          have HOR := Lib.hid (or_step h n nl j k hlt hk3 HH.out hn2 HLT.out)
          rw [← HZJ.out, ← hz1] at HOR
          clear HPV hz1 hQ hp hpp hpt e1 hn hn2 hpv
          go_wp2_with fail
          refine (HPV2.out _).mono ?_
          rintro e w2 ⟨rfl, hd2⟩
          have HD2 := Lib.hid (drew_drew HDJ.out hd2)
          clear hd2
          go_wp2_with fail
          go_roundw
          case rel => exact ⟨j + 1, h * 256 + n, _, by omega, by go_num, rfl, Lib.hid HOR.out.1, Lib.hid HOR.out.2, HNX, HD2⟩
          case measure => simp [intOf]; omega
      · have hje : j = k := by omega
        subst hje
        have hfin := HTJ.out
        rw [List.drop_of_length_le (by rw [HK.out]; exact Nat.le_refl _), List.nil_append, HEND.out] at hfin
        have HF := Lib.hid hfin
        clear hfin
        go_wp2
        go_ret2
        refine ⟨?_, HDJ.out⟩
        rw [HF.out, HZJ.out]
        rfl

theorem splitGo_size (sep : UInt8) : ∀ (l cur p : List UInt8), p ∈ splitGo sep cur l → p.length ≤ cur.length + l.length
  | [], cur, p, h => by
    simp [splitGo] at h
    rw [h]
    simp
  | c :: l, cur, p, h => by
    rw [splitGo] at h
    split at h
    · rcases List.mem_cons.1 h with rfl | h
      · simp
      · have := splitGo_size sep l [] p h
        simp at this ⊢
        omega
    · have := splitGo_size sep l _ p h
      simp at this ⊢
      omega

theorem parts_size {l p : List UInt8} (h : p ∈ partsL l) : p.length ≤ l.length := by
  have h2 : p ∈ splitL l 46 := by
    unfold partsL at h
    split at h
    · exact List.dropLast_subset _ h
    · exact h
  have := splitGo_size 46 l [] p h2
  simpa using this

theorem parts_lowed {s p : List UInt8} (h : p ∈ partsL (lowL s)) : lowL p = p ∧ p.length ≤ s.length := by
  have h2 := parts_size h
  rw [low_length] at h2
  rw [parts_low] at h
  obtain ⟨q, _, rfl⟩ := List.mem_map.1 h
  exact ⟨lowL_low q, h2⟩

theorem take_last {ps : List (List UInt8)} {m : Nat} (h : ps.length = m + 1) : ∃ last, ps[m]? = some last ∧ ps = ps.take m ++ [last] := by
  refine ⟨ps[m]'(by omega), List.getElem?_eq_getElem (by omega), ?_⟩
  rw [← List.take_succ_eq_append_getElem (by omega), List.take_of_length_le (by omega)]

theorem hnumber_any (s : ByteArray) (hs : s.size ≤ 1073741824) (w : World) :
    Calls Tryz.prog 86 #[.string s] w fun e w' => e = .returned (.tuple #[.int .u32 ((optN (numberP s.data.toList) : Nat) : Int), .bool (numberP s.data.toList).isSome]) ∧ Below w.heap.size w w' := by
  obtain ⟨d, hd⟩ : ∃ d : ByteArray, d = ⟨(lowL s.data.toList).toArray⟩ := ⟨_, rfl⟩
  have hdl : d.data.toList = lowL s.data.toList := by rw [hd]
  have hds : d.size ≤ 1073741824 := by rw [← size_data, hdl, low_length, size_data]; exact hs
  have HL := Lib.hid (lower_str_any s hs w)
  rw [← hd] at HL
  have HPT := Lib.hid (fun W => hparts_any d hds W)
  obtain ⟨m, hm⟩ : ∃ m, (partsL d.data.toList).length = m + 1 := ⟨(partsL d.data.toList).length - 1, by have := parts_pos d.data.toList; omega⟩
  obtain ⟨last, hlast, hcut⟩ := take_last hm
  have hmz : m ≤ 1073741824 := by
    have h1 : (partsL d.data.toList).length ≤ (splitL d.data.toList 46).length := by
      unfold partsL
      split
      · rw [List.length_dropLast]; omega
      · exact Nat.le_refl _
    have h2 := splitL_len d.data.toList 46
    rw [size_data] at h2
    omega
  have hN : numberP s.data.toList = addrP (partsL d.data.toList) := by rw [← number_low, ← hdl]; rfl
  rw [hN]
  have HE : Hid (∀ p ∈ partsL d.data.toList, lowL p = p ∧ p.length ≤ 1073741824) := Lib.hid (fun p hp => by
    rw [hdl] at hp
    have := parts_lowed hp
    rw [size_data] at this
    exact ⟨this.1, by omega⟩)
  obtain ⟨ps, hps⟩ : ∃ ps, ps = partsL d.data.toList := ⟨_, rfl⟩
  rw [← hps] at HPT HE hm hlast hcut ⊢
  rw [hm] at HPT
  have HM := Lib.hid hm
  have HLA := Lib.hid hlast
  have HCUT := Lib.hid hcut
  clear hN hps hd hdl hds hs hm hlast hcut
  go_enter Tryz.func86, Tryz.ntmps86
  go_wp2_with fail
  refine HL.out.mono ?_
  rintro e w1 ⟨rfl, hb1⟩
  have HB1 := Lib.hid hb1
  clear hb1
  go_wp2_with fail
  refine (HPT.out _).mono ?_
  rintro e w2 ⟨⟨a, c, rfl, hc, hsl⟩, hb2⟩
  have HB2 := Lib.hid (below_then HB1.out hb2)
  have HSL := Lib.hid hsl
  clear hb2 hsl
  by_cases h4 : m ≤ 3
  · have hmz4 : ¬ (4 : Int) < (m : Int) + 1 := by omega
    obtain ⟨b, off, rfl, hcell⟩ := strings_at (w' := w2) HSL.out ⟨0, rfl⟩ HLA.out
    have hc0 : ¬ c = 0 := by omega
    have hmc : (m : Int) ≤ (c : Int) := by omega
    have hh := sliceAt_less (m := m) (xs := ps.map strL) (by rw [List.length_map, HM.out]; exact HSL.out) (by rw [List.length_map, HM.out]; omega)
    rw [if_neg hc0, ← List.map_take] at hh
    obtain ⟨lt, hlt⟩ : ∃ lt : ByteArray, lt = ⟨last.toArray⟩ := ⟨_, rfl⟩
    have hll := HE.out last (List.mem_of_getElem? HLA.out)
    have HCO := Lib.hid (fun n => hcompose_any lt (ps.take m) m (by rw [List.length_take, HM.out]; omega) h4 (some ⟨b, off, none⟩) c (w2.drewN n) (by rw [hlt, mk_size]; exact hll.2) (by rw [hlt]; exact hll.1)
      (fun p hp => HE.out p (List.take_subset _ _ hp)) (SliceAt.below hh (below_draws (Below.refl _ _) ⟨n, rfl⟩)))
    have e1 : lt.data.toList = last := by rw [hlt]
    rw [e1, ← HCUT.out] at HCO
    rw [← hlt] at hcell
    have HR : Hid (addrP ps = sumP 4 ps) := Lib.hid (by unfold addrP; rw [if_pos (by rw [HM.out]; omega)])
    obtain ⟨S, hS⟩ : ∃ S, S = sumP 4 ps := ⟨_, rfl⟩
    rw [← hS] at HCO HR
    have i1 : (0 : Int) ≤ (m : Int) := by omega
    clear hS hlt hll e1 hh
    go_wp2_with fail
    have i2 : (m : Int) < (m : Int) + 1 := by omega
    have i3 : (m : Int) < ((m + 1 : Nat) : Int) := by omega
    go_quiet ((go_at_call 111; exact Calls.quiet_of (HCO.out _)))
    go_wp2
    go_ret2
    refine ⟨by rw [HR.out]; rfl, ?_⟩
    exact below_draws HB2.out ⟨_, rfl⟩
  · have hmz4 : (4 : Int) < (m : Int) + 1 := by omega
    have HR : Hid (addrP ps = none) := Lib.hid (by unfold addrP; rw [if_neg (by rw [HM.out]; omega)])
    go_wp2
    go_ret2
    exact ⟨by rw [HR.out]; rfl, HB2.out⟩

/-- The library's table of powers of ten. -/
def Tab10 (w : World) : Prop := Lib.TabIs Tryz.prog w "internal/strconv.uint64pow10" .u64 Lib.pow10Tab

theorem tab10_below {w w' : World} (h : Tab10 w) (hb : Below w.heap.size w w') : Tab10 w' := tab_below hb h

theorem sl_at {w : World} {a : Option Addr} {k c : Nat} {xs : List Value} (h : SliceAt w (.slice a k c) xs) {j : Nat} {x : Value} (hx : xs[j]? = some x) : ∃ b off, a = some ⟨b, off, none⟩ ∧ w.cell? ⟨b, off + j, none⟩ = some x := by
  obtain ⟨a2, c2, e, h2⟩ := h
  injection e with e1 e2 e3
  subst e1 e3
  rcases h2 with rfl | ⟨b, off, rfl, h2⟩
  · simp at hx
  · exact ⟨b, off, rfl, h2 j x hx⟩

def itoV (x : UInt8) : Value := .string ⟨(Lib.itoa (x.toNat : Int)).toArray⟩

theorem itoa_small (x : UInt8) : (Lib.itoa (x.toNat : Int)).length ≤ 3 := itoa_len ⟨x.toNat, x.toNat_lt⟩

theorem hdotted_any (bs : List UInt8) (h4 : bs.length = 4) (a : Option Addr) (c : Nat) (w : World) (hv : SliceAt w (.slice a 4 c) (bs.map byteV)) (hT : Tab10 w) :
    Calls Tryz.prog 112 #[.slice a 4 c] w fun e w' => e = .returned (.string ⟨(Lib.join (bs.map (fun x => Lib.itoa (x.toNat : Int))) [46]).toArray⟩) ∧ Below w.heap.size w w' := by
  have HV := Lib.hid hv
  have HT := Lib.hid hT
  have H4 := Lib.hid h4
  clear hv hT h4
  have hmk : ∀ W : World, (Instr.makeSlice 38 (.int .i64 4) (.int .i64 4)).run Tryz.prog W = .ok (.slice (some ⟨W.heap.size, 0, none⟩) 4 4) (W.alloc (.cells (Array.replicate 4 (.string ByteArray.empty)) 9)) := fun W => by kernel_rfl
  have HR0 := Lib.hid (Rw.alloc w 9 (Array.replicate 4 (.string ByteArray.empty)) (base := w.heap.size) (Nat.le_refl _))
  have HB0 := Lib.hid (below_more (Below.refl w.heap.size w) (.cells (Array.replicate 4 (.string ByteArray.empty)) 9))
  go_enter Tryz.func112, Tryz.ntmps112
  go_wp2
  generalize w.alloc (.cells (Array.replicate 4 (.string ByteArray.empty)) 9) = w0 at HR0 HB0 ⊢
  go_loopw [11] (fun i wr => ∃ (k : Nat) (xs : List Value), k ≤ 4 ∧ i = .int .i64 k ∧ Hid (xs.length = 4) ∧ Hid (∀ j < k, xs[j]? = bs[j]?.map itoV) ∧ Hid (Rw wr w.heap.size w.heap.size 9 xs) ∧ Hid (Below w.heap.size w wr)) (fun i _ => 4 - (intOf i).toNat)
  case atStart => exact ⟨0, _, Nat.zero_le _, rfl, Lib.hid (by simp), Lib.hid (fun j hj => by omega), HR0, HB0⟩
  case round =>
    clear HR0 HB0 hmk
    obtain ⟨k, xs, hk, rfl, HL, HX, HR, HB⟩ := hrel
    obtain ⟨w1, hw1⟩ : ∃ w1 : World, w1 = wr := ⟨_, rfl⟩
    subst hw1
    by_cases hlt : k < 4
    · have hlz : (k : Int) < 4 := by omega
      obtain ⟨x, hx⟩ : ∃ x, bs[k]? = some x := ⟨_, List.getElem?_eq_getElem (by rw [H4.out]; exact hlt)⟩
      obtain ⟨b, off, rfl, hcell⟩ := sl_at (SliceAt.below HV.out HB.out) (j := k) (x := byteV x) (by rw [List.getElem?_map, hx]; rfl)
      unfold byteV at hcell
      have hxb := byte_bd x
      have HD := Lib.hid (fun W (hT : Tab10 W) => decimal_any (x.toNat : Int) (by omega) W hT)
      have HXX := Lib.hid hx
      obtain ⟨X, hX⟩ : ∃ X : Int, X = (x.toNat : Int) := ⟨_, rfl⟩
      rw [← hX] at hcell hxb HD
      have HXE := Lib.hid hX
      clear hX hx
      go_wp2_with fail
      refine (HD.out _ (tab10_below HT.out HB.out)).mono ?_
      rintro e w2 ⟨rfl, hb2⟩
      have hr2 := Rw.below HR.out hb2
      have HB2 := Lib.hid (below_then HB.out hb2)
      obtain ⟨y, hy⟩ : ∃ y, xs[k]? = some y := ⟨_, List.getElem?_eq_getElem (by rw [HL.out]; exact hlt)⟩
      have c1 := Rw.cell hr2 hy
      have f1 := Rw.free hr2 k
      have HR2 := Lib.hid hr2
      clear hb2 hr2 hy
      go_wp2
      go_roundw
      case rel =>
        refine ⟨k + 1, xs.set k (itoV x), by omega, by go_num, Lib.hid (by rw [List.length_set]; exact HL.out), Lib.hid ?_, Lib.hid ?_, Lib.hid ?_⟩
        · intro j hj
          by_cases he : j = k
          · subst he
            rw [List.getElem?_set_self (by rw [HL.out]; exact hlt), HXX.out]
            rfl
          · rw [List.getElem?_set_ne (Ne.symm he)]
            exact HX.out j (by omega)
        · have := Rw.stored HR2.out k (itoV x)
          unfold itoV at this ⊢
          rw [← HXE.out] at this ⊢
          exact this
        · exact HB2.out.setCell (p := ⟨w.heap.size, k, none⟩) (Nat.le_refl _) _
      case measure => simp [intOf]; omega
    · have hlz : ¬ (k : Int) < 4 := by omega
      have hk4 : k = 4 := by omega
      have hJ := Tryz.strings_Join w.heap.size 0 4 (bs.map (fun x => (⟨(Lib.itoa (x.toNat : Int)).toArray⟩ : ByteArray))) ⟨#[46]⟩ w1 (fun j x hj => by
          rw [List.getElem?_map] at hj
          obtain ⟨y, hy, rfl⟩ := Option.map_eq_some_iff.1 hj
          obtain ⟨hl, _⟩ := List.getElem?_eq_some_iff.1 hy
          rw [Nat.zero_add]
          refine Rw.cell HR.out ?_
          rw [HX.out j (by rw [H4.out] at hl; omega), hy]
          rfl) (Rw.size HR.out) (by rw [List.length_map, H4.out]; decide) (by rw [List.length_map, H4.out]; decide) (by
          rw [List.map_map]
          have h4 := H4.out
          match bs, h4 with
          | [a, b, c, d], _ =>
            have := itoa_small a
            have := itoa_small b
            have := itoa_small c
            have := itoa_small d
            simp only [List.map_cons, List.map_nil, Function.comp_apply]
            rw [Lib.join_length]
            simp [Lib.lens]
            omega)
      rw [List.length_map, H4.out, List.map_map] at hJ
      have HJ := Lib.hid hJ
      clear hJ
      go_wp2_with fail
      refine HJ.out.mono ?_
      rintro e w2 ⟨rfl, hb2⟩
      have HB2 := Lib.hid (below_then HB.out hb2)
      go_wp2
      go_ret
      exact ⟨rfl, HB2.out⟩

theorem join_four (p q r s : List UInt8) : Lib.join [p, q, r, s] [46] = joinD [p, q, r, s] := by
  simp [Lib.join, List.intercalate, joinD]

theorem htext_any (n : Nat) (hn : n < 4294967296) (w : World) (hT : Tab10 w) :
    Calls Tryz.prog 87 #[.int .u32 (n : Int)] w fun e w' => e = .returned (.string ⟨(textL n).toArray⟩) ∧ Below w.heap.size w w' := by
  obtain ⟨z, hz⟩ : ∃ z : Int, z = (n : Int) := ⟨_, rfl⟩
  have hz0 : 0 ≤ z ∧ z < 4294967296 := by omega
  rw [← hz]
  obtain ⟨bs, hbs⟩ : ∃ bs : List UInt8, bs = [UInt8.ofNat (n / 16777216 % 256), UInt8.ofNat (n / 65536 % 256), UInt8.ofNat (n / 256 % 256), UInt8.ofNat (n % 256)] := ⟨_, rfl⟩
  have e0 : ∀ m, ((UInt8.ofNat (m % 256)).toNat : Int) = (m % 256 : Nat) := fun m => by rw [UInt8.toNat_ofNat']; omega
  have HX : Hid (Lib.join (bs.map (fun x => Lib.itoa (x.toNat : Int))) [46] = textL n) := Lib.hid (by
    rw [hbs]
    simp only [List.map_cons, List.map_nil, e0]
    rw [join_four]
    rfl)
  have HM : Hid (bs.map byteV = [.int .u8 (z / 16777216 % 256), .int .u8 (z / 65536 % 256), .int .u8 (z / 256 % 256), .int .u8 (z % 256)]) := Lib.hid (by
    rw [hbs, hz]
    simp only [List.map_cons, List.map_nil, byteV, e0]
    simp)
  have HL : Hid (bs.length = 4) := Lib.hid (by rw [hbs]; rfl)
  have HT := Lib.hid hT
  clear hz hbs hT e0
  have d1 : z / 16777216 % 256 = z / 16777216 := by omega
  rw [d1] at HM
  go_enter Tryz.func87, Tryz.ntmps87
  go_wp2_with fail
  refine (hdotted_any bs HL.out _ 4 _ (by rw [HM.out]; exact SliceAt.lit _ _ _ _ _ rfl) (tab10_below HT.out (below_more (Below.refl _ _) _))).mono ?_
  rw [HX.out]
  rintro e w2 ⟨rfl, hb2⟩
  have HB2 := Lib.hid (below_then (below_more (Below.refl _ _) _) hb2)
  go_wp2
  go_ret
  exact ⟨rfl, HB2.out⟩

end Go.Proofs.YtnecjofgjbfheaaGreatDoor
