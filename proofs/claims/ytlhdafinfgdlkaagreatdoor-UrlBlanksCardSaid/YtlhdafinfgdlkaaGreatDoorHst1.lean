/- The code's digits, bases and parts: digit, all, times, value, partValue, each to the plain one. -/
import Derived.Test.YtlhdafinfgdlkaaGreatDoorShelf
import Derived.Lib.Strings
import Derived.BigQuiet
import Derived.Test.YtlhdafinfgdlkaaGreatDoorProg
import Derived.Test.YtlhdafinfgdlkaaGreatDoorKit
import Derived.Test.YtlhdafinfgdlkaaGreatDoorPlain
import Derived.Test.YtlhdafinfgdlkaaGreatDoorAsc1
import Derived.Test.YtlhdafinfgdlkaaGreatDoorRow
import Derived.Test.YtlhdafinfgdlkaaGreatDoorPct0
import Derived.Test.YtlhdafinfgdlkaaGreatDoorPct2
import Derived.Test.YtlhdafinfgdlkaaGreatDoorPct4
import Derived.Test.YtlhdafinfgdlkaaGreatDoorHst0
namespace Go.Proofs.YtlhdafinfgdlkaaGreatDoor
open Go.RowKit Go.Proofs
set_option maxRecDepth 100000

def dgI (n : Int) : Int := if 48 ≤ n ∧ n ≤ 57 then n - 48 else if 97 ≤ n ∧ n ≤ 102 then n - 87 else 255

theorem dgI_bd (c : UInt8) : 0 ≤ dgI c.toNat ∧ dgI c.toNat ≤ 255 := by unfold dgI; have := c.toNat_lt; split <;> (try split) <;> omega

theorem dgI_no (b : Nat) (hb : b = 8 ∨ b = 10 ∨ b = 16) {c : UInt8} (hl : lowB c = c) : ((b : Int) ≤ dgI c.toNat) ↔ isD b c = false := by
  have h := byte_all (p := fun c => lowB c = c → (((8 : Int) ≤ dgI c.toNat) ↔ isD 8 c = false) ∧ (((10 : Int) ≤ dgI c.toNat) ↔ isD 10 c = false) ∧ (((16 : Int) ≤ dgI c.toNat) ↔ isD 16 c = false)) (by decide +kernel) c hl
  rcases hb with rfl | rfl | rfl
  · exact h.1
  · exact h.2.1
  · exact h.2.2

theorem dgI_val (b : Nat) (hb : b = 8 ∨ b = 10 ∨ b = 16) {c : UInt8} (hl : lowB c = c) (hd : isD b c = true) : dgI c.toNat = ((hexI c.toNat).toNat : Nat) := by
  have h := byte_all (p := fun c => lowB c = c → isD 16 c = true → dgI c.toNat = ((hexI c.toNat).toNat : Nat)) (by decide +kernel) c hl
  apply h
  unfold isD at hd ⊢
  simp only [Bool.and_eq_true, decide_eq_true_eq] at hd ⊢
  rcases hb with rfl | rfl | rfl <;> omega

theorem hdigit_any (c : UInt8) (w : World) :
    Calls Tryz.prog 145 #[.int .u8 c.toNat] w fun e w' => e = .returned (.int .u8 (dgI c.toNat)) ∧ w' = w := by
  have hc := c.toNat_lt
  obtain ⟨n, hn⟩ : ∃ n : Int, n = c.toNat := ⟨_, rfl⟩
  have h0 : 0 ≤ n ∧ n ≤ 255 := by omega
  rw [← hn]
  clear hn hc
  by_cases a1 : 48 ≤ n ∧ n ≤ 57
  · obtain ⟨b1, b2⟩ := a1
    have hv : dgI n = n - 48 := by unfold dgI; rw [if_pos ⟨b1, b2⟩]
    rw [hv]
    go_enter Tryz.func145, Tryz.ntmps145
    go_wp2
    go_ret
    exact ⟨rfl, rfl⟩
  · by_cases a3 : 97 ≤ n ∧ n ≤ 102
    · obtain ⟨b1, b2⟩ := a3
      have hv : dgI n = n - 87 := by unfold dgI; rw [if_neg a1, if_pos ⟨b1, b2⟩]
      have d1 : ¬ n ≤ 57 := by omega
      have e3 : n - 97 + 10 = n - 87 := by omega
      rw [hv]
      clear a1
      go_enter Tryz.func145, Tryz.ntmps145
      go_wp2
      go_ret
      exact ⟨by first | rfl | rw [e3], rfl⟩
    · have hv : dgI n = 255 := by unfold dgI; rw [if_neg a1, if_neg a3]
      rw [hv]
      by_cases c1 : 48 ≤ n
      · have c2 : ¬ n ≤ 57 := by omega
        by_cases c5 : 97 ≤ n
        · have c6 : ¬ n ≤ 102 := by omega
          clear a1 a3
          go_enter Tryz.func145, Tryz.ntmps145
          go_wp2
          go_ret
          exact ⟨rfl, rfl⟩
        · clear a1 a3
          go_enter Tryz.func145, Tryz.ntmps145
          go_wp2
          go_ret
          exact ⟨rfl, rfl⟩
      · have c5 : ¬ 97 ≤ n := by omega
        clear a1 a3
        go_enter Tryz.func145, Tryz.ntmps145
        go_wp2
        go_ret
        exact ⟨rfl, rfl⟩

theorem low_at {s : ByteArray} (hl : lowL s.data.toList = s.data.toList) (k : Nat) (h : k < s.size) : lowB s[k] = s[k] := by
  have := congrArg (fun l : List UInt8 => l[k]?) hl
  simp only [lowL, List.getElem?_map] at this
  rw [List.getElem?_eq_getElem (by rw [size_data]; exact h)] at this
  injection this

theorem allD_at (b : Int) (s : ByteArray) (k : Nat) (h : k < s.size) (hn : isD b s[k] = false) : allD b s.data.toList = false := by
  unfold allD
  rw [List.all_eq_false]
  exact ⟨s[k], by show s.data.toList[k]'(by rw [size_data]; exact h) ∈ _; exact List.getElem_mem _, by rw [hn]; decide⟩

theorem hall_any (b : Nat) (hb : b = 8 ∨ b = 10 ∨ b = 16) (s : ByteArray) (hs : s.size ≤ 1073741824) (hl : lowL s.data.toList = s.data.toList) (w : World) :
    Calls Tryz.prog 122 #[.int .u64 (b : Int), .string s] w fun e w' => e = .returned (.bool (allD b s.data.toList)) ∧ w' = w := by
  have hbb : (8 : Int) ≤ (b : Int) ∧ (b : Int) ≤ 16 := by omega
  have HL := Lib.hid hl
  have HB := Lib.hid hb
  clear hl hb
  go_enter Tryz.func122, Tryz.ntmps122
  go_wp2
  go_loop [8] (fun i => ∃ k : Nat, k ≤ s.size ∧ i = .int .i64 k ∧ allD b (s.data.toList.take k) = true) (fun i => s.size - (intOf i).toNat)
  case atStart => exact ⟨0, Nat.zero_le _, rfl, rfl⟩
  case round =>
    obtain ⟨k, hk, rfl, hno⟩ := hrel
    have HN := Lib.hid hno
    clear hno
    by_cases hlt : k < s.size
    · have hdb := dgI_bd s[k]
      have HQ := Lib.hid (dgI_no b HB.out (low_at HL.out k hlt))
      have HD := Lib.hid (hdigit_any s[k] w)
      obtain ⟨D, hD⟩ : ∃ D, D = dgI s[k].toNat := ⟨_, rfl⟩
      rw [← hD] at hdb HQ HD
      clear hD
      by_cases hq : (b : Int) ≤ D
      · have HF := Lib.hid (allD_at b s k hlt (HQ.out.1 hq))
        go_wp2_with fail
        refine HD.out.mono ?_
        rintro e w' ⟨rfl, rfl⟩
        go_wp2
        go_ret
        exact ⟨ret_bool HF.out.symm, rfl⟩
      · have HF : Hid (allD b (s.data.toList.take (k + 1)) = true) := Lib.hid (by
          rw [take_snoc s k hlt, allD_snoc, HN.out]
          cases h : isD b s[k]
          · exact absurd (HQ.out.2 h) hq
          · rfl)
        go_wp2_with fail
        refine HD.out.mono ?_
        rintro e w' ⟨rfl, rfl⟩
        go_wp2
        go_round
        case rel => exact ⟨k + 1, by omega, by go_num, HF.out⟩
        case measure => simp [intOf]; omega
    · have hfin := HN.out
      rw [List.take_of_length_le (by simp; omega)] at hfin
      have HF := Lib.hid hfin
      clear hfin
      go_wp2
      go_ret
      exact ⟨ret_bool HF.out.symm, rfl⟩

theorem htimes_any (b : Nat) (hb : b = 8 ∨ b = 10 ∨ b = 16) (n : Nat) (hn : n ≤ 4294967296) (w : World) :
    Calls Tryz.prog 163 #[.int .u64 (b : Int), .int .u64 (n : Int)] w fun e w' => e = .returned (.int .u64 ((n * b : Nat) : Int)) ∧ w' = w := by
  obtain ⟨z, hz⟩ : ∃ z : Int, z = (n : Int) := ⟨_, rfl⟩
  have hz0 : 0 ≤ z ∧ z ≤ 4294967296 := by omega
  rw [← hz]
  rcases hb with rfl | rfl | rfl
  · have HV : Hid (((n * 8 : Nat) : Int) = z * 8) := Lib.hid (by omega)
    clear hz hn
    go_enter Tryz.func163, Tryz.ntmps163
    go_wp2
    go_ret
    exact ⟨ret_int (by rw [HV.out] <;> first | done | omega), rfl⟩
  · have HV : Hid (((n * 10 : Nat) : Int) = z * 10) := Lib.hid (by omega)
    clear hz hn
    go_enter Tryz.func163, Tryz.ntmps163
    go_wp2
    go_ret
    exact ⟨ret_int (by rw [HV.out] <;> first | done | omega), rfl⟩
  · have HV : Hid (((n * 16 : Nat) : Int) = z * 16) := Lib.hid (by omega)
    clear hz hn
    go_enter Tryz.func163, Tryz.ntmps163
    go_wp2
    go_ret
    exact ⟨ret_int (by rw [HV.out] <;> first | done | omega), rfl⟩

def pvN (o : Option Nat) (lim : Nat) : Nat := match o with | none => 0 | some n => min n lim

def pvB (o : Option Nat) (lim : Nat) : Bool := match o with | none => false | some n => decide (n < lim)

def valP (b : Nat) (l : List UInt8) : Option Nat := if allD b l then some (valD b l) else none

theorem valP_yes {b : Nat} {l : List UInt8} (h : allD b l = true) : valP b l = some (valD b l) := by unfold valP; rw [if_pos h]

theorem valP_no {b : Nat} {l : List UInt8} (h : allD b l = false) : valP b l = none := by unfold valP; rw [if_neg (by rw [h]; decide)]

theorem min_step (b v lim d : Nat) (hb : 1 ≤ b) : min (min v lim * b + d) lim = min (v * b + d) lim := by
  by_cases h : v ≤ lim
  · rw [Nat.min_eq_left h]
  · have h1 : min v lim = lim := Nat.min_eq_right (by omega)
    have h2 : lim ≤ lim * b := Nat.le_mul_of_pos_right _ hb
    have h3 : lim * b ≤ v * b := Nat.mul_le_mul_right _ (by omega)
    rw [h1, Nat.min_eq_right (by omega), Nat.min_eq_right (by omega)]

theorem hvalue_any (b : Nat) (hb : b = 8 ∨ b = 10 ∨ b = 16) (s : ByteArray) (hs : s.size ≤ 1073741824) (hl : lowL s.data.toList = s.data.toList) (lim : Nat) (hlim : lim ≤ 4294967296) (w : World) :
    Calls Tryz.prog 157 #[.int .u64 (b : Int), .string s, .int .u64 (lim : Int)] w fun e w' => e = .returned (.tuple #[.int .u64 ((pvN (valP b s.data.toList) lim : Nat) : Int), .bool (pvB (valP b s.data.toList) lim)]) ∧ Drew w w' := by
  have hbb : (8 : Int) ≤ (b : Int) ∧ (b : Int) ≤ 16 := by omega
  have HA := Lib.hid (hall_any b hb s hs hl w)
  cases hall : allD b s.data.toList
  · rw [hall] at HA
    rw [valP_no hall]
    go_enter Tryz.func157, Tryz.ntmps157
    go_wp2_with fail
    refine HA.out.mono ?_
    rintro e w' ⟨rfl, rfl⟩
    go_wp2
    go_ret2
    exact ⟨rfl, ⟨0, rfl⟩⟩
  · rw [hall] at HA
    rw [valP_yes hall]
    have HEACH : Hid (∀ k (h : k < s.size), dgI s[k].toNat = ((hexI s[k].toNat).toNat : Nat)) := Lib.hid (fun k h => by
      refine dgI_val b hb (low_at hl k h) ?_
      cases hd : isD b s[k]
      · rw [allD_at b s k h hd] at hall
        exact absurd hall (by decide)
      · rfl)
    have HT := Lib.hid (fun n (hn : n ≤ 4294967296) W => htimes_any b hb n hn W)
    have HB := Lib.hid hb
    obtain ⟨L, hL⟩ : ∃ L : Int, L = (lim : Int) := ⟨_, rfl⟩
    have hL0 : 0 ≤ L ∧ L ≤ 4294967296 := by omega
    rw [← hL]
    have HLL := Lib.hid hL
    have HLM := Lib.hid hlim
    clear hall hl hb hL hlim
    go_enter Tryz.func157, Tryz.ntmps157
    go_wp2_with fail
    refine HA.out.mono ?_
    rintro e w' ⟨rfl, rfl⟩
    go_wp2_with fail
    go_loopw [6, 15] (fun n i wr => ∃ (k : Nat) (N : Int), k ≤ s.size ∧ i = .int .i64 k ∧ n = .int .u64 N ∧ Hid (N = (min (valD b (s.data.toList.take k)) lim : Nat)) ∧ Drew w' wr) (fun _ i _ => s.size - (intOf i).toNat)
    case atStart => exact ⟨0, 0, Nat.zero_le _, rfl, rfl, Lib.hid (by simp [valD]), ⟨0, rfl⟩⟩
    case round =>
      obtain ⟨k, N, hk, rfl, rfl, HN, hdr⟩ := hrel
      have HDR := Lib.hid hdr
      clear hdr
      have hN0 : 0 ≤ N ∧ N ≤ L := by have := HN.out; have := HLL.out; omega
      by_cases hlt : k < s.size
      · have hin : (k : Int) < (s.size : Int) := by omega
        have hdb := dgI_bd s[k]
        obtain ⟨D, hD⟩ : ∃ D, D = dgI s[k].toNat := ⟨_, rfl⟩
        have HDG := Lib.hid (fun W => hdigit_any s[k] W)
        rw [← hD] at hdb HDG
        obtain ⟨m, hm⟩ : ∃ m : Nat, (m : Int) = N := ⟨N.toNat, by omega⟩
        have HTT := Lib.hid (fun W => HT.out m (by have := HLM.out; have := HLL.out; omega) W)
        rw [hm] at HTT
        obtain ⟨T, hT⟩ : ∃ T : Int, T = ((m * b : Nat) : Int) := ⟨_, rfl⟩
        rw [← hT] at HTT
        have hT0 : 0 ≤ T ∧ T ≤ 68719476736 := by
          rw [hT]
          have h1 : m ≤ 4294967296 := by have := HLM.out; have := HLL.out; omega
          have h2 : m * b ≤ 4294967296 * 16 := Nat.mul_le_mul h1 (by omega)
          omega
        have HNX : Hid (min (T + D) L = (min (valD b (s.data.toList.take (k + 1))) lim : Nat)) := Lib.hid (by
          rw [take_snoc s k hlt, valD_snoc, ← min_step b (valD b (s.data.toList.take k)) lim _ (by omega), hT, hD, HEACH.out k hlt, HLL.out]
          have h1 := HN.out
          have : m = min (valD b (s.data.toList.take k)) lim := by omega
          rw [this]
          omega)
        clear hm hT hD
        go_wp2_with fail
        go_quiet (first | (go_at_call 163; exact Calls.quiet_of_same (HTT.out _)) | (go_at_call 145; exact Calls.quiet_of_same (HDG.out _)))
        go_wp2
        go_roundw
        case rel => exact ⟨k + 1, min (T + D) L, by omega, by go_num, by first | rfl | (congr 1), HNX, Drew.more HDR.out _⟩
        case measure => simp [intOf]; omega
      · have hfin := HN.out
        rw [List.take_of_length_le (by simp; omega)] at hfin
        have hLL := HLL.out
        have HF1 : Hid (N = ((pvN (some (valD b s.data.toList)) lim : Nat) : Int)) := Lib.hid hfin
        have HF2 : Hid (decide (N < L) = pvB (some (valD b s.data.toList)) lim) := Lib.hid (by
          unfold pvB
          rw [Bool.eq_iff_iff, decide_eq_true_eq, decide_eq_true_eq]
          omega)
        clear hfin hLL
        go_wp2
        go_ret2
        exact ⟨by rw [← HF1.out, ← HF2.out]; rfl, HDR.out⟩

/-! partValue -/
theorem hexPre (l : List UInt8) (hl : lowL l = l) : Lib.hasPrefix l [48, 120] = xpre l := by
  unfold Lib.hasPrefix xpre
  match l, hl with
  | [], _ => rfl
  | [a], _ => simp [List.isPrefixOf]
  | a :: b :: r, hl =>
    have hb : lowB b = b := by
      have := congrArg (fun l : List UInt8 => l[1]?) hl
      simpa [lowL] using this
    have h1 : ((48 : UInt8) == a) = decide ((a.toNat : Int) = 48) := byte_all (p := fun a => ((48 : UInt8) == a) = decide ((a.toNat : Int) = 48)) (by decide +kernel) a
    have h2 : ((120 : UInt8) == b) = (decide ((b.toNat : Int) = 120) || decide ((b.toNat : Int) = 88)) := byte_all (p := fun b => lowB b = b → ((120 : UInt8) == b) = (decide ((b.toNat : Int) = 120) || decide ((b.toNat : Int) = 88))) (by decide +kernel) b hb
    simp only [List.isPrefixOf, h1, h2, List.getD_cons_zero, List.getD_cons_succ, Bool.and_true]
    simp

theorem hexCut (l : List UInt8) (hl : lowL l = l) : Lib.trimPrefix l [48, 120] = if xpre l then l.drop 2 else l := by
  unfold Lib.trimPrefix
  rw [hexPre l hl]
  rfl

theorem low_drop2 {l : List UInt8} (hl : lowL l = l) (n : Nat) : lowL (l.drop n) = l.drop n := by rw [← low_drop, hl]

theorem numP_x {p : List UInt8} (h : xpre p = true) : numP p = valP 16 (p.drop 2) := by unfold numP; rw [if_pos h]; rfl

theorem numP_o {p : List UInt8} (h : xpre p = false) (h2 : opre p = true) : numP p = valP 8 p := by unfold numP; rw [if_neg (by rw [h]; decide), if_pos h2]; rfl

theorem numP_d {p : List UInt8} (h : xpre p = false) (h2 : opre p = false) (h0 : p ≠ []) : numP p = valP 10 p := by
  unfold numP valP
  rw [if_neg (by rw [h]; decide), if_neg (by rw [h2]; decide)]
  cases hd : allD 10 p
  · rw [if_neg (by rintro ⟨_, h⟩; exact absurd h (by decide))]
    rfl
  · rw [if_pos ⟨h0, rfl⟩]
    rfl

theorem nil_size {s : ByteArray} (h : s.size = 0) : s.data.toList = [] := List.eq_nil_of_length_eq_zero (by rw [size_data]; exact h)

theorem mk_size (l : List UInt8) : (⟨l.toArray⟩ : ByteArray).size = l.length := rfl

theorem hpart_any (s : ByteArray) (hs : s.size ≤ 1073741824) (hl : lowL s.data.toList = s.data.toList) (lim : Nat) (hlim : lim ≤ 4294967296) (w : World) :
    Calls Tryz.prog 146 #[.string s, .int .u64 (lim : Int)] w fun e w' => e = .returned (.tuple #[.int .u64 ((pvN (numP s.data.toList) lim : Nat) : Int), .bool (pvB (numP s.data.toList) lim)]) ∧ Drew w w' := by
  by_cases h0 : s.size = 0
  · have hn := nil_size h0
    have hse : s = ByteArray.empty := by
      cases s with | mk a => cases a with | mk l => simp at hn; subst hn; rfl
    subst hse
    go_enter Tryz.func146, Tryz.ntmps146
    go_wp2
    go_ret2
    exact ⟨rfl, ⟨0, rfl⟩⟩
  · have hne : s.data.toList ≠ [] := by
      intro h
      have := congrArg List.length h
      rw [size_data] at this
      exact h0 this
    have hse := emptyNo h0
    have HC := Lib.hid (Tryz.strings_CutPrefix s ⟨#[48, 120]⟩ w)
    rw [show (⟨#[48, 120]⟩ : ByteArray).data.toList = [48, 120] from rfl, hexPre _ hl, hexCut _ hl] at HC
    cases hx : xpre s.data.toList
    · rw [hx] at HC
      simp only [if_false, Bool.false_eq_true] at HC
      cases ho : opre s.data.toList
      · have HV := Lib.hid (hvalue_any 10 (by omega) s hs hl lim hlim w)
        rw [← numP_d hx ho hne] at HV
        have ho2 := ho
        unfold opre at ho2
        rw [size_data] at ho2
        by_cases hz : 2 ≤ s.size
        · have hg := getD_at s 0 (by omega)
          rw [hg] at ho2
          have hs0 : ((s[0].toNat : Int) == 48) = false := by
            rw [beq_eq_false_iff_ne]
            intro h
            rw [decide_eq_true hz, decide_eq_true h] at ho2
            exact absurd ho2 (by decide)
          have hz1 : (1 : Int) < (s.size : Int) := by omega
          have hz0 : (0 : Int) < (s.size : Int) := by omega
          have hi0 : 0 < s.size := by omega
          clear ho2 hg ho hx hl hne
          go_enter Tryz.func146, Tryz.ntmps146
          go_wp2_with fail
          refine HC.out.mono ?_
          rintro e w' ⟨rfl, rfl⟩
          go_wp2_with fail
          refine HV.out.mono ?_
          rintro e w' ⟨rfl, hd⟩
          go_wp2
          go_ret2
          exact ⟨rfl, hd⟩
        · have hz1 : ¬ (1 : Int) < (s.size : Int) := by omega
          clear ho2 ho hx hl hne
          go_enter Tryz.func146, Tryz.ntmps146
          go_wp2_with fail
          refine HC.out.mono ?_
          rintro e w' ⟨rfl, rfl⟩
          go_wp2_with fail
          refine HV.out.mono ?_
          rintro e w' ⟨rfl, hd⟩
          go_wp2
          go_ret2
          exact ⟨rfl, hd⟩
      · have HV := Lib.hid (hvalue_any 8 (by omega) s hs hl lim hlim w)
        rw [← numP_o hx ho] at HV
        have ho2 := ho
        unfold opre at ho2
        rw [size_data] at ho2
        simp only [Bool.and_eq_true, decide_eq_true_eq] at ho2
        obtain ⟨hz, h48⟩ := ho2
        rw [getD_at s 0 (by omega)] at h48
        have hs0 : ((s[0].toNat : Int) == 48) = true := beq_iff_eq.2 h48
        have hz1 : (1 : Int) < (s.size : Int) := by omega
        have hz0 : (0 : Int) < (s.size : Int) := by omega
        have hi0 : 0 < s.size := by omega
        clear ho hx hl hne h48
        go_enter Tryz.func146, Tryz.ntmps146
        go_wp2_with fail
        refine HC.out.mono ?_
        rintro e w' ⟨rfl, rfl⟩
        go_wp2_with fail
        refine HV.out.mono ?_
        rintro e w' ⟨rfl, hd⟩
        go_wp2
        go_ret2
        exact ⟨rfl, hd⟩
    · rw [hx] at HC
      simp only [if_true] at HC
      have HV := Lib.hid (hvalue_any 16 (by omega) ⟨(s.data.toList.drop 2).toArray⟩ (by rw [mk_size, List.length_drop, size_data]; omega) (low_drop2 hl 2) lim hlim w)
      rw [show (⟨(s.data.toList.drop 2).toArray⟩ : ByteArray).data.toList = s.data.toList.drop 2 from rfl, ← numP_x hx] at HV
      clear hx hl hne
      go_enter Tryz.func146, Tryz.ntmps146
      go_wp2_with fail
      refine HC.out.mono ?_
      rintro e w' ⟨rfl, rfl⟩
      go_wp2_with fail
      refine HV.out.mono ?_
      rintro e w' ⟨rfl, hd⟩
      go_wp2
      go_ret2
      exact ⟨rfl, hd⟩

theorem beq_nil {s : ByteArray} (h : s.data.toList ≠ []) : s.toList.isEmpty = false := emptyNo (fun e => h (nil_size e))

theorem beq_empty {s : ByteArray} (h : s.data.toList = []) : s = ByteArray.empty := by
  cases s with | mk a => cases a with | mk l => simp at h; subst h; rfl

/-- numeric of a text in small letters. -/
theorem allD_x {l : List UInt8} (h : xpre l = true) : allD 10 l = false := by
  unfold xpre at h
  simp only [Bool.and_eq_true, Bool.or_eq_true, decide_eq_true_eq] at h
  obtain ⟨h0, _, h2⟩ := h
  match l, h0 with
  | a :: b :: r, _ =>
    simp only [List.getD_cons_succ, List.getD_cons_zero] at h2
    have : isD 10 b = false := by
      have e : b = 120 ∨ b = 88 := by
        rcases h2 with h | h
        · exact .inl (UInt8.toNat_inj.1 (by show b.toNat = 120; omega))
        · exact .inr (UInt8.toNat_inj.1 (by show b.toNat = 88; omega))
      rcases e with rfl | rfl <;> decide
    unfold allD
    simp [this]

theorem hnumeric_any (s : ByteArray) (hs : s.size ≤ 1073741824) (hl : lowL s.data.toList = s.data.toList) (w : World) :
    Calls Tryz.prog 91 #[.string s] w fun e w' => e = .returned (.bool (numericP s.data.toList)) ∧ w' = w := by
  have HC := Lib.hid (Tryz.strings_CutPrefix s ⟨#[48, 120]⟩ w)
  rw [show (⟨#[48, 120]⟩ : ByteArray).data.toList = [48, 120] from rfl, hexPre _ hl, hexCut _ hl] at HC
  cases hx : xpre s.data.toList
  · rw [hx] at HC
    simp only [if_false, Bool.false_eq_true] at HC
    by_cases hne : s.data.toList = []
    · have he := beq_empty hne
      subst he
      go_enter Tryz.func91, Tryz.ntmps91
      go_wp2_with fail
      refine HC.out.mono ?_
      rintro e w' ⟨rfl, rfl⟩
      go_wp2
      go_ret
      exact ⟨rfl, rfl⟩
    · have hb := beq_nil hne
      have HV := Lib.hid (hall_any 10 (by omega) s hs hl w)
      have HR : Hid (allD 10 s.data.toList = numericP s.data.toList) := Lib.hid (by unfold numericP; rw [hx, decide_eq_true hne]; simp)
      clear hx hl hne
      go_enter Tryz.func91, Tryz.ntmps91
      go_wp2_with fail
      refine HC.out.mono ?_
      rintro e w' ⟨rfl, rfl⟩
      go_wp2_with fail
      refine HV.out.mono ?_
      rintro e w' ⟨rfl, rfl⟩
      go_wp2
      go_ret
      exact ⟨ret_bool HR.out, rfl⟩
  · rw [hx] at HC
    simp only [if_true] at HC
    have HV := Lib.hid (hall_any 16 (by omega) ⟨(s.data.toList.drop 2).toArray⟩ (by rw [mk_size, List.length_drop, size_data]; omega) (low_drop2 hl 2) w)
    rw [show (⟨(s.data.toList.drop 2).toArray⟩ : ByteArray).data.toList = s.data.toList.drop 2 from rfl] at HV
    have HR : Hid (allD 16 (s.data.toList.drop 2) = numericP s.data.toList) := Lib.hid (by unfold numericP; rw [hx, allD_x hx]; simp)
    clear hx hl
    go_enter Tryz.func91, Tryz.ntmps91
    go_wp2_with fail
    refine HC.out.mono ?_
    rintro e w' ⟨rfl, rfl⟩
    go_wp2_with fail
    refine HV.out.mono ?_
    rintro e w' ⟨rfl, rfl⟩
    go_wp2
    go_ret
    exact ⟨ret_bool HR.out, rfl⟩

/-- hasForbidden. -/
def anyF (l : List UInt8) : Bool := l.any forbB

theorem forb_at (s : ByteArray) (k : Nat) (h : k < s.size) (hn : forbB s[k] = true) : anyF s.data.toList = true := by
  unfold anyF
  rw [List.any_eq_true]
  exact ⟨s[k], by show s.data.toList[k]'(by rw [size_data]; exact h) ∈ _; exact List.getElem_mem _, hn⟩

theorem forb_snoc (s : ByteArray) (k : Nat) (h : k < s.size) (h1 : anyF (s.data.toList.take k) = false) (h2 : forbB s[k] = false) : anyF (s.data.toList.take (k + 1)) = false := by
  unfold anyF at h1 ⊢
  rw [take_snoc s k h, List.any_append, h1]
  simp [h2]

theorem hforb_any (s : ByteArray) (hs : s.size ≤ 1073741824) (w : World) :
    Calls Tryz.prog 89 #[.string s] w fun e w' => e = .returned (.bool (anyF s.data.toList)) ∧ w' = w := by
  go_enter Tryz.func89, Tryz.ntmps89
  go_wp2
  go_loop [7] (fun i => ∃ k : Nat, k ≤ s.size ∧ i = .int .i64 k ∧ anyF (s.data.toList.take k) = false) (fun i => s.size - (intOf i).toNat)
  case atStart => exact ⟨0, Nat.zero_le _, rfl, rfl⟩
  case round =>
    obtain ⟨k, hk, rfl, hno⟩ := hrel
    have HN := Lib.hid hno
    clear hno
    by_cases hlt : k < s.size
    · have HT := Lib.hid (forb_at s k hlt)
      have HF := Lib.hid (forb_snoc s k hlt HN.out)
      have hf : forbB s[k] = (decide ((s[k].toNat : Int) ≤ 32) || decide (127 ≤ (s[k].toNat : Int)) || hasB forbL s[k]) := rfl
      have HIX := Lib.hid (Tryz.strings_IndexByte ⟨forbL.toArray⟩ (s[k].toNat : Int) w)
      rw [show ((s[k].toNat : Int)).toNat.toUInt8 = s[k] from by simp] at HIX
      have HX := Lib.hid (index_has forbL s[k])
      by_cases c1 : (s[k].toNat : Int) ≤ 32
      · rw [decide_eq_true c1] at hf
        have HQ := Lib.hid (HT.out (by rw [hf]; rfl))
        clear hf
        go_wp2
        go_ret
        exact ⟨ret_bool HQ.out.symm, rfl⟩
      · by_cases c2 : 127 ≤ (s[k].toNat : Int)
        · rw [decide_eq_true c2] at hf
          have HQ := Lib.hid (HT.out (by rw [hf]; simp))
          clear hf
          go_wp2
          go_ret
          exact ⟨ret_bool HQ.out.symm, rfl⟩
        · rw [decide_eq_false c1, decide_eq_false c2] at hf
          obtain ⟨I, hI⟩ : ∃ I, I = Lib.indexByte forbL s[k] := ⟨_, rfl⟩
          have hI2 : Lib.indexByte (⟨forbL.toArray⟩ : ByteArray).data.toList s[k] = I := hI.symm
          rw [hI2] at HIX
          rw [← hI] at HX
          by_cases c3 : 0 ≤ I
          · have HQ := Lib.hid (HT.out (by rw [hf, ← HX.out, decide_eq_true c3]; rfl))
            clear hf hI hI2
            go_wp2_with fail
            refine HIX.out.mono ?_
            rintro e w' ⟨rfl, rfl⟩
            go_wp2
            go_ret
            exact ⟨ret_bool HQ.out.symm, rfl⟩
          · have HQ := Lib.hid (HF.out (by rw [hf, ← HX.out, decide_eq_false c3]; rfl))
            have c5 : decide (0 ≤ I) = false := decide_eq_false c3
            clear hf hI hI2 c3
            go_wp2_with fail
            refine HIX.out.mono ?_
            rintro e w' ⟨rfl, rfl⟩
            go_wp2
            go_round
            case rel => exact ⟨k + 1, by omega, by go_num, HQ.out⟩
            case measure => simp [intOf]; omega
    · have hfin := HN.out
      rw [List.take_of_length_le (by simp; omega)] at hfin
      have HF := Lib.hid hfin
      clear hfin
      go_wp2
      go_ret
      exact ⟨ret_bool HF.out.symm, rfl⟩

end Go.Proofs.YtlhdafinfgdlkaaGreatDoor
