/-
  PercentRunes: for every number and every place, the number's own bytes are UTF-8 just where it is none of a half pair and none above the last, a first part of them is none, and three bytes for a number below 2048 are none; the card's statement, its two listed tables tied to the program's text. No condition.
-/
import Derived.Stop.LaidErr
import Derived.Deep.DeepHandedRow
import Derived.Test.YtommhbfdkboeiaaDoorCards
import Derived.Test.YtommhbfdkboeiaaDoorTie
import Derived.Test.YtommhbfdkboeiaaDoorProg
import Derived.Test.YtommhbfdkboeiaaDoorKit
import Derived.Test.YtommhbfdkboeiaaDoorLaw
import Derived.Test.YtommhbfdkboeiaaDoorRow
import Derived.Test.YtommhbfdkboeiaaDoorCod7
import Derived.Test.YtommhbfdkboeiaaDoorFrm11
import Derived.Test.YtommhbfdkboeiaaDoorPct6
import Derived.Test.YtommhbfdkboeiaaDoorPlw0
import Derived.Test.YtommhbfdkboeiaaDoorPct5
import Derived.Test.YtommhbfdkboeiaaDoorPct7
import Derived.Test.YtommhbfdkboeiaaDoorPct8
namespace Go.Proofs.YtommhbfdkboeiaaDoor
open Go.ChangeShapes Go.WideShapes Go.ChangeAt Go.RowKit Go.Proofs
open Go.ChangeMaps (open_string shut_string)

theorem byte_of (z : Nat) (h : z < 256) : ∃ c : UInt8, c.toNat = z := ⟨UInt8.ofNat z, by rw [UInt8.toNat_ofNat', Nat.mod_eq_of_lt h]⟩

/-- The facts on a number's bits that its bytes are made of. -/
theorem runes_facts (x : Nat) (hx : x < 2097152) : ∃ (m0 m1 m2 m15 q6 q12 q18 : Nat) (B0 B1 B2 BL : UInt8),
    ((x : Int) / 64 = (q6 : Int)) ∧ ((x : Int) / 4096 = (q12 : Int)) ∧ ((x : Int) / 262144 = (q18 : Int)) ∧
    (bits .and .i64 (x : Int) 63 = (m0 : Int)) ∧ (bits .and .i64 (q6 : Int) 63 = (m1 : Int)) ∧ (bits .and .i64 (q12 : Int) 63 = (m2 : Int)) ∧ (bits .and .i64 (q12 : Int) 15 = (m15 : Int)) ∧
    (bits .or .i64 128 (m0 : Int) = (B0.toNat : Int)) ∧ (bits .or .i64 128 (m1 : Int) = (B1.toNat : Int)) ∧ (bits .or .i64 128 (m2 : Int) = (B2.toNat : Int)) ∧ (bits .or .i64 224 (m15 : Int) = (BL.toNat : Int)) ∧
    (B0.toNat = 128 + x % 64 ∧ B1.toNat = 128 + x / 64 % 64 ∧ B2.toNat = 128 + x / 4096 % 64 ∧ BL.toNat = 224 + x / 4096 % 16 ∧ q6 = x / 64 ∧ q12 = x / 4096 ∧ q18 = x / 262144) := by
  obtain ⟨B0, b0⟩ := byte_of (128 + x % 64) (by omega)
  obtain ⟨B1, b1⟩ := byte_of (128 + x / 64 % 64) (by omega)
  obtain ⟨B2, b2⟩ := byte_of (128 + x / 4096 % 64) (by omega)
  obtain ⟨BL, bl⟩ := byte_of (224 + x / 4096 % 16) (by omega)
  have a1 := mask_i64 6 (by decide) x (by omega)
  have a2 := mask_i64 6 (by decide) (x / 64) (by omega)
  have a3 := mask_i64 6 (by decide) (x / 4096) (by omega)
  have a4 := mask_i64 4 (by decide) (x / 4096) (by omega)
  have o1 := or_hi 6 128 (x % 64) (by decide) (by decide) (by decide) (by omega)
  have o2 := or_hi 6 128 (x / 64 % 64) (by decide) (by decide) (by decide) (by omega)
  have o3 := or_hi 6 128 (x / 4096 % 64) (by decide) (by decide) (by decide) (by omega)
  have o4 := or_hi 4 224 (x / 4096 % 16) (by decide) (by decide) (by decide) (by omega)
  rw [← b0] at o1
  rw [← b1] at o2
  rw [← b2] at o3
  rw [← bl] at o4
  exact ⟨x % 64, x / 64 % 64, x / 4096 % 64, x / 4096 % 16, x / 64, x / 4096, x / 262144, B0, B1, B2, BL, by omega, by omega, by omega, a1, a2, a3, a4, o1, o2, o3, o4, b0, b1, b2, bl, rfl, rfl, rfl⟩

set_option maxRecDepth 100000 in
set_option maxHeartbeats 4000000 in
theorem runes_one (x : Nat) (h1 : 0 ≤ x) (h2 : x < 128) (cut : Int) (hcut : -9223372036854775808 ≤ cut ∧ cut ≤ 9223372036854775807) (w : World) (hT : Tabs9 w) :
    Calls Tryd.prog 8 #[.int .i64 (x : Int), .int .i64 cut] w fun e w' => e = .returned (.bool true) ∧ Below w.heap.size w w' := by
  have HT := Lib.hid hT
  clear hT
  obtain ⟨m0, m1, m2, m15, q6, q12, q18, B0, B1, B2, BL, f1, f2, f3, f4, f5, f6, f7, f8, f9, f10, f11, t0, t1, t2, tl, k6, k12, k18⟩ := runes_facts x (by omega)
  have u0 := B0.toNat_lt
  have u1 := B1.toNat_lt
  have u2 := B2.toNat_lt
  have ul := BL.toNat_lt
  have w0 : IntKind.u8.wrap (B0.toNat : Int) = (B0.toNat : Int) := by rw [IntKind.wrap_u8]; omega
  have w1 : IntKind.u8.wrap (B1.toNat : Int) = (B1.toNat : Int) := by rw [IntKind.wrap_u8]; omega
  have w2 : IntKind.u8.wrap (B2.toNat : Int) = (B2.toNat : Int) := by rw [IntKind.wrap_u8]; omega
  have wl : IntKind.u8.wrap (BL.toNat : Int) = (BL.toNat : Int) := by rw [IntKind.wrap_u8]; omega
  obtain ⟨C, tc⟩ := byte_of x (by omega)
  have cc : IntKind.u8.wrap (x : Int) = (C.toNat : Int) := by rw [IntKind.wrap_u8]; omega
  have uc := C.toNat_lt
  have wc : IntKind.u8.wrap (C.toNat : Int) = (C.toNat : Int) := by rw [IntKind.wrap_u8]; omega
  obtain ⟨l, hl⟩ : ∃ l : List UInt8, l = [C] := ⟨_, rfl⟩
  have hlen : l.length = 1 := by rw [hl]; rfl
  have HV : Hid (Lib.validD l = true) := Lib.hid (by
    rw [hl]
    exact pv1 C (by omega))
  have HS : Hid (∀ k, 0 < k → k < 1 → Lib.validD (l.take k) = false) := Lib.hid (by
    intro k hk0 hk
    rw [hl]
    exfalso; omega)
  have HLG : Hid (Lib.validD [BL, B1, B0] = false) := Lib.hid (by
    rw [pv3 BL B1 B0 x (by omega) (by omega) (by unfold contN; omega) (by unfold contN; omega) (by omega)]
    exact decide_eq_false (fun h => h (by unfold badU; omega)))
  have z0 : ¬ (x : Int) < 0 := by omega
  have z1 : ¬ (2097151 : Int) < (x : Int) := by omega
  have y1 : (x : Int) < 128 := by omega
  have y2 : (x : Int) < 2048 := by omega
  have y3 : (x : Int) < 65536 := by omega
  have y2b : ¬ (2048 : Int) ≤ (x : Int) := by omega
  have y4 : (x : Int) ≤ 1114111 := by omega
  have y5 : (x : Int) < 55296 := by omega
  have y6 : ¬ (57343 : Int) < (x : Int) := by omega
  have HCL : Hid (l.map byteV = [.int .u8 (C.toNat : Int)]) := Lib.hid (by rw [hl]; rfl)
  have HLL : Hid (([BL, B1, B0] : List UInt8).map byteV = [.int .u8 (BL.toNat : Int), .int .u8 (B1.toNat : Int), .int .u8 (B0.toNat : Int)]) := Lib.hid rfl
  have hrd := fun W => round_any cut 1 W hcut (by decide)
  have HRD := Lib.hid hrd
  have HLEN := Lib.hid hlen
  clear hl hrd hlen h1 h2 t0 t1 t2 tl k6 k12 k18 u0 u1 u2 ul uc tc
  go_enter Tryd.func8, Tryd.ntmps8
  go_wp2_with fail
  refine (HRD.out _).mono ?_
  rintro e wa ⟨⟨r, hr, rfl⟩, hwa⟩
  have HBA : Hid (Below w.heap.size w wa) := Lib.hid (by rw [← hwa]; exact below_more (below_more (Below.refl _ _) _) _)
  have HCA : Hid (CellsAt wa w.heap.size l) := Lib.hid (by
    rw [← hwa]
    exact cellsAt_below (cellsAt_lit w l _ _ (by rw [HCL.out])) (below_more (Below.refl _ _) _))
  have HCB : Hid (CellsAt wa (w.heap.size + 1) [BL, B1, B0]) := Lib.hid (by
    rw [← hwa]
    have := cellsAt_lit (w.alloc (.cells #[.int .u8 (C.toNat : Int)] 5)) [BL, B1, B0] #[.int .u8 (BL.toNat : Int), .int .u8 (B1.toNat : Int), .int .u8 (B0.toNat : Int)] 5 (by rw [HLL.out])
    simpa using this)
  clear hwa
  have kc := run_convert_at (P := Tryd.prog) 32 5 9 Tryd.underlying32 Tryd.underlying5 Tryd.underlying9 (cap := 1) HCA.out HLEN.out.symm
  have c1 := utf8_any ⟨l.toArray⟩ (by have := HLEN.out; show l.toArray.size ≤ _; simp; omega) wa (tabs_below HT.out HBA.out)
  rw [show (⟨l.toArray⟩ : ByteArray).data.toList = l from rfl, HV.out] at c1
  go_wp2_with fail
  refine c1.mono ?_
  rintro e wb ⟨rfl, hbb⟩
  have HBB := Lib.hid (below_then HBA.out hbb)
  have HCA2 := Lib.hid (cellsAt_below HCA.out hbb)
  have HCB2 := Lib.hid (cellsAt_below HCB.out hbb)
  clear hbb c1 kc HCA HCB HV
  by_cases hr0 : r = 0
  · subst hr0
    have kc := run_convert_at (P := Tryd.prog) 32 5 9 Tryd.underlying32 Tryd.underlying5 Tryd.underlying9 (n := 3) (cap := 3) HCB2.out rfl
    have c1 := utf8_any ⟨([BL, B1, B0] : List UInt8).toArray⟩ (show 3 ≤ 1073741824 by decide) wb (tabs_below HT.out HBB.out)
    rw [show (⟨([BL, B1, B0] : List UInt8).toArray⟩ : ByteArray).data.toList = [BL, B1, B0] from rfl, HLG.out] at c1
    go_wp2_with fail
    refine c1.mono ?_
    rintro e wd ⟨rfl, hbd⟩
    have HBD := Lib.hid (below_then HBB.out hbd)
    clear hbd c1 kc
    go_wp2_with fail
    refine (awake9_any _ (tabs_below HT.out HBD.out)).mono ?_
    rintro e we ⟨rfl, hbe⟩
    have HBE := Lib.hid (below_then HBD.out hbe)
    clear hbe
    go_wp2
    go_ret
    exact ⟨rfl, HBE.out⟩

  · have hrz : ((r : Int) == 0) = false := beq_eq_false_iff_ne.2 (by omega)
    have hrn : (r : Int) ≤ 1 := by omega
    have hrp : (0 : Int) ≤ (r : Int) := by omega
    have hlk : (l.take r).length = r := by rw [List.length_take, HLEN.out]; omega
    have kc := run_convert_at (P := Tryd.prog) 32 5 9 Tryd.underlying32 Tryd.underlying5 Tryd.underlying9 (cap := 1) (cellsAt_take HCA2.out r) hlk.symm
    have c1 := utf8_any ⟨(l.take r).toArray⟩ (by show (l.take r).toArray.size ≤ _; simp; omega) wb (tabs_below HT.out HBB.out)
    rw [show (⟨(l.take r).toArray⟩ : ByteArray).data.toList = l.take r from rfl, HS.out r (by omega) hr] at c1
    clear hlk hr hr0
    go_wp2_with fail
    refine c1.mono ?_
    rintro e wc ⟨rfl, hbc⟩
    have HBC := Lib.hid (below_then HBB.out hbc)
    have HCB3 := Lib.hid (cellsAt_below HCB2.out hbc)
    clear hbc c1 kc HCB2 HBB
    have kc := run_convert_at (P := Tryd.prog) 32 5 9 Tryd.underlying32 Tryd.underlying5 Tryd.underlying9 (n := 3) (cap := 3) HCB3.out rfl
    have c1 := utf8_any ⟨([BL, B1, B0] : List UInt8).toArray⟩ (show 3 ≤ 1073741824 by decide) wc (tabs_below HT.out HBC.out)
    rw [show (⟨([BL, B1, B0] : List UInt8).toArray⟩ : ByteArray).data.toList = [BL, B1, B0] from rfl, HLG.out] at c1
    go_wp2_with fail
    refine c1.mono ?_
    rintro e wd ⟨rfl, hbd⟩
    have HBD := Lib.hid (below_then HBC.out hbd)
    clear hbd c1 kc
    go_wp2_with fail
    refine (awake9_any _ (tabs_below HT.out HBD.out)).mono ?_
    rintro e we ⟨rfl, hbe⟩
    have HBE := Lib.hid (below_then HBD.out hbe)
    clear hbe
    go_wp2
    go_ret
    exact ⟨rfl, HBE.out⟩

set_option maxRecDepth 100000 in
set_option maxHeartbeats 4000000 in
theorem runes_two (x : Nat) (h1 : 128 ≤ x) (h2 : x < 2048) (cut : Int) (hcut : -9223372036854775808 ≤ cut ∧ cut ≤ 9223372036854775807) (w : World) (hT : Tabs9 w) :
    Calls Tryd.prog 8 #[.int .i64 (x : Int), .int .i64 cut] w fun e w' => e = .returned (.bool true) ∧ Below w.heap.size w w' := by
  have HT := Lib.hid hT
  clear hT
  obtain ⟨m0, m1, m2, m15, q6, q12, q18, B0, B1, B2, BL, f1, f2, f3, f4, f5, f6, f7, f8, f9, f10, f11, t0, t1, t2, tl, k6, k12, k18⟩ := runes_facts x (by omega)
  have u0 := B0.toNat_lt
  have u1 := B1.toNat_lt
  have u2 := B2.toNat_lt
  have ul := BL.toNat_lt
  have w0 : IntKind.u8.wrap (B0.toNat : Int) = (B0.toNat : Int) := by rw [IntKind.wrap_u8]; omega
  have w1 : IntKind.u8.wrap (B1.toNat : Int) = (B1.toNat : Int) := by rw [IntKind.wrap_u8]; omega
  have w2 : IntKind.u8.wrap (B2.toNat : Int) = (B2.toNat : Int) := by rw [IntKind.wrap_u8]; omega
  have wl : IntKind.u8.wrap (BL.toNat : Int) = (BL.toNat : Int) := by rw [IntKind.wrap_u8]; omega
  obtain ⟨C, tc⟩ := byte_of (192 + x / 64) (by omega)
  have cc : bits .or .i64 192 (q6 : Int) = (C.toNat : Int) := by rw [k6, tc]; exact or_hi 6 192 (x / 64) (by decide) (by decide) (by decide) (by omega)
  have uc := C.toNat_lt
  have wc : IntKind.u8.wrap (C.toNat : Int) = (C.toNat : Int) := by rw [IntKind.wrap_u8]; omega
  obtain ⟨l, hl⟩ : ∃ l : List UInt8, l = [C, B0] := ⟨_, rfl⟩
  have hlen : l.length = 2 := by rw [hl]; rfl
  have HV : Hid (Lib.validD l = true) := Lib.hid (by
    rw [hl]
    exact pv2 C B0 (by omega) (by omega) (by unfold contN; omega))
  have HS : Hid (∀ k, 0 < k → k < 2 → Lib.validD (l.take k) = false) := Lib.hid (by
    intro k hk0 hk
    rw [hl]
    exact pv_short C _ k hk0 (by omega) (by omega))
  have HLG : Hid (Lib.validD [BL, B1, B0] = false) := Lib.hid (by
    rw [pv3 BL B1 B0 x (by omega) (by omega) (by unfold contN; omega) (by unfold contN; omega) (by omega)]
    exact decide_eq_false (fun h => h (by unfold badU; omega)))
  have z0 : ¬ (x : Int) < 0 := by omega
  have z1 : ¬ (2097151 : Int) < (x : Int) := by omega
  have y1 : ¬ (x : Int) < 128 := by omega
  have y2 : (x : Int) < 2048 := by omega
  have y3 : (x : Int) < 65536 := by omega
  have y2b : ¬ (2048 : Int) ≤ (x : Int) := by omega
  have y4 : (x : Int) ≤ 1114111 := by omega
  have y5 : (x : Int) < 55296 := by omega
  have y6 : ¬ (57343 : Int) < (x : Int) := by omega
  have HCL : Hid (l.map byteV = [.int .u8 (C.toNat : Int), .int .u8 (B0.toNat : Int)]) := Lib.hid (by rw [hl]; rfl)
  have HLL : Hid (([BL, B1, B0] : List UInt8).map byteV = [.int .u8 (BL.toNat : Int), .int .u8 (B1.toNat : Int), .int .u8 (B0.toNat : Int)]) := Lib.hid rfl
  have hrd := fun W => round_any cut 2 W hcut (by decide)
  have HRD := Lib.hid hrd
  have HLEN := Lib.hid hlen
  clear hl hrd hlen h1 h2 t0 t1 t2 tl k6 k12 k18 u0 u1 u2 ul uc tc
  go_enter Tryd.func8, Tryd.ntmps8
  go_wp2_with fail
  refine (HRD.out _).mono ?_
  rintro e wa ⟨⟨r, hr, rfl⟩, hwa⟩
  have HBA : Hid (Below w.heap.size w wa) := Lib.hid (by rw [← hwa]; exact below_more (below_more (Below.refl _ _) _) _)
  have HCA : Hid (CellsAt wa w.heap.size l) := Lib.hid (by
    rw [← hwa]
    exact cellsAt_below (cellsAt_lit w l _ _ (by rw [HCL.out])) (below_more (Below.refl _ _) _))
  have HCB : Hid (CellsAt wa (w.heap.size + 1) [BL, B1, B0]) := Lib.hid (by
    rw [← hwa]
    have := cellsAt_lit (w.alloc (.cells #[.int .u8 (C.toNat : Int), .int .u8 (B0.toNat : Int)] 5)) [BL, B1, B0] #[.int .u8 (BL.toNat : Int), .int .u8 (B1.toNat : Int), .int .u8 (B0.toNat : Int)] 5 (by rw [HLL.out])
    simpa using this)
  clear hwa
  have kc := run_convert_at (P := Tryd.prog) 32 5 9 Tryd.underlying32 Tryd.underlying5 Tryd.underlying9 (cap := 2) HCA.out HLEN.out.symm
  have c1 := utf8_any ⟨l.toArray⟩ (by have := HLEN.out; show l.toArray.size ≤ _; simp; omega) wa (tabs_below HT.out HBA.out)
  rw [show (⟨l.toArray⟩ : ByteArray).data.toList = l from rfl, HV.out] at c1
  go_wp2_with fail
  refine c1.mono ?_
  rintro e wb ⟨rfl, hbb⟩
  have HBB := Lib.hid (below_then HBA.out hbb)
  have HCA2 := Lib.hid (cellsAt_below HCA.out hbb)
  have HCB2 := Lib.hid (cellsAt_below HCB.out hbb)
  clear hbb c1 kc HCA HCB HV
  by_cases hr0 : r = 0
  · subst hr0
    have kc := run_convert_at (P := Tryd.prog) 32 5 9 Tryd.underlying32 Tryd.underlying5 Tryd.underlying9 (n := 3) (cap := 3) HCB2.out rfl
    have c1 := utf8_any ⟨([BL, B1, B0] : List UInt8).toArray⟩ (show 3 ≤ 1073741824 by decide) wb (tabs_below HT.out HBB.out)
    rw [show (⟨([BL, B1, B0] : List UInt8).toArray⟩ : ByteArray).data.toList = [BL, B1, B0] from rfl, HLG.out] at c1
    go_wp2_with fail
    refine c1.mono ?_
    rintro e wd ⟨rfl, hbd⟩
    have HBD := Lib.hid (below_then HBB.out hbd)
    clear hbd c1 kc
    go_wp2_with fail
    refine (awake9_any _ (tabs_below HT.out HBD.out)).mono ?_
    rintro e we ⟨rfl, hbe⟩
    have HBE := Lib.hid (below_then HBD.out hbe)
    clear hbe
    go_wp2
    go_ret
    exact ⟨rfl, HBE.out⟩

  · have hrz : ((r : Int) == 0) = false := beq_eq_false_iff_ne.2 (by omega)
    have hrn : (r : Int) ≤ 2 := by omega
    have hrp : (0 : Int) ≤ (r : Int) := by omega
    have hlk : (l.take r).length = r := by rw [List.length_take, HLEN.out]; omega
    have kc := run_convert_at (P := Tryd.prog) 32 5 9 Tryd.underlying32 Tryd.underlying5 Tryd.underlying9 (cap := 2) (cellsAt_take HCA2.out r) hlk.symm
    have c1 := utf8_any ⟨(l.take r).toArray⟩ (by show (l.take r).toArray.size ≤ _; simp; omega) wb (tabs_below HT.out HBB.out)
    rw [show (⟨(l.take r).toArray⟩ : ByteArray).data.toList = l.take r from rfl, HS.out r (by omega) hr] at c1
    clear hlk hr hr0
    go_wp2_with fail
    refine c1.mono ?_
    rintro e wc ⟨rfl, hbc⟩
    have HBC := Lib.hid (below_then HBB.out hbc)
    have HCB3 := Lib.hid (cellsAt_below HCB2.out hbc)
    clear hbc c1 kc HCB2 HBB
    have kc := run_convert_at (P := Tryd.prog) 32 5 9 Tryd.underlying32 Tryd.underlying5 Tryd.underlying9 (n := 3) (cap := 3) HCB3.out rfl
    have c1 := utf8_any ⟨([BL, B1, B0] : List UInt8).toArray⟩ (show 3 ≤ 1073741824 by decide) wc (tabs_below HT.out HBC.out)
    rw [show (⟨([BL, B1, B0] : List UInt8).toArray⟩ : ByteArray).data.toList = [BL, B1, B0] from rfl, HLG.out] at c1
    go_wp2_with fail
    refine c1.mono ?_
    rintro e wd ⟨rfl, hbd⟩
    have HBD := Lib.hid (below_then HBC.out hbd)
    clear hbd c1 kc
    go_wp2_with fail
    refine (awake9_any _ (tabs_below HT.out HBD.out)).mono ?_
    rintro e we ⟨rfl, hbe⟩
    have HBE := Lib.hid (below_then HBD.out hbe)
    clear hbe
    go_wp2
    go_ret
    exact ⟨rfl, HBE.out⟩

set_option maxRecDepth 100000 in
set_option maxHeartbeats 4000000 in
theorem runes_threea (x : Nat) (h1 : 2048 ≤ x) (h2 : x < 55296) (cut : Int) (hcut : -9223372036854775808 ≤ cut ∧ cut ≤ 9223372036854775807) (w : World) (hT : Tabs9 w) :
    Calls Tryd.prog 8 #[.int .i64 (x : Int), .int .i64 cut] w fun e w' => e = .returned (.bool true) ∧ Below w.heap.size w w' := by
  have HT := Lib.hid hT
  clear hT
  obtain ⟨m0, m1, m2, m15, q6, q12, q18, B0, B1, B2, BL, f1, f2, f3, f4, f5, f6, f7, f8, f9, f10, f11, t0, t1, t2, tl, k6, k12, k18⟩ := runes_facts x (by omega)
  have u0 := B0.toNat_lt
  have u1 := B1.toNat_lt
  have u2 := B2.toNat_lt
  have ul := BL.toNat_lt
  have w0 : IntKind.u8.wrap (B0.toNat : Int) = (B0.toNat : Int) := by rw [IntKind.wrap_u8]; omega
  have w1 : IntKind.u8.wrap (B1.toNat : Int) = (B1.toNat : Int) := by rw [IntKind.wrap_u8]; omega
  have w2 : IntKind.u8.wrap (B2.toNat : Int) = (B2.toNat : Int) := by rw [IntKind.wrap_u8]; omega
  have wl : IntKind.u8.wrap (BL.toNat : Int) = (BL.toNat : Int) := by rw [IntKind.wrap_u8]; omega
  obtain ⟨C, tc⟩ := byte_of (224 + x / 4096) (by omega)
  have cc : bits .or .i64 224 (q12 : Int) = (C.toNat : Int) := by rw [k12, tc]; exact or_hi 4 224 (x / 4096) (by decide) (by decide) (by decide) (by omega)
  have uc := C.toNat_lt
  have wc : IntKind.u8.wrap (C.toNat : Int) = (C.toNat : Int) := by rw [IntKind.wrap_u8]; omega
  obtain ⟨l, hl⟩ : ∃ l : List UInt8, l = [C, B1, B0] := ⟨_, rfl⟩
  have hlen : l.length = 3 := by rw [hl]; rfl
  have HV : Hid (Lib.validD l = true) := Lib.hid (by
    rw [hl]
    rw [pv3 C B1 B0 x (by omega) (by omega) (by unfold contN; omega) (by unfold contN; omega) (by omega)]
    exact decide_eq_true (fun h => by unfold badU at h; omega))
  have HS : Hid (∀ k, 0 < k → k < 3 → Lib.validD (l.take k) = false) := Lib.hid (by
    intro k hk0 hk
    rw [hl]
    exact pv_short C _ k hk0 (by omega) (by omega))

  have z0 : ¬ (x : Int) < 0 := by omega
  have z1 : ¬ (2097151 : Int) < (x : Int) := by omega
  have y1 : ¬ (x : Int) < 128 := by omega
  have y2 : ¬ (x : Int) < 2048 := by omega
  have y3 : (x : Int) < 65536 := by omega
  have y2b : (2048 : Int) ≤ (x : Int) := by omega
  have y4 : (x : Int) ≤ 1114111 := by omega
  have y5 : (x : Int) < 55296 := by omega
  have y6 : ¬ (57343 : Int) < (x : Int) := by omega
  have HCL : Hid (l.map byteV = [.int .u8 (C.toNat : Int), .int .u8 (B1.toNat : Int), .int .u8 (B0.toNat : Int)]) := Lib.hid (by rw [hl]; rfl)
  have HLL : Hid (([BL, B1, B0] : List UInt8).map byteV = [.int .u8 (BL.toNat : Int), .int .u8 (B1.toNat : Int), .int .u8 (B0.toNat : Int)]) := Lib.hid rfl
  have hrd := fun W => round_any cut 3 W hcut (by decide)
  have HRD := Lib.hid hrd
  have HLEN := Lib.hid hlen
  clear hl hrd hlen h1 h2 t0 t1 t2 tl k6 k12 k18 u0 u1 u2 ul uc tc
  go_enter Tryd.func8, Tryd.ntmps8
  go_wp2_with fail
  refine (HRD.out _).mono ?_
  rintro e wa ⟨⟨r, hr, rfl⟩, hwa⟩
  have HBA : Hid (Below w.heap.size w wa) := Lib.hid (by rw [← hwa]; exact below_more (below_more (Below.refl _ _) _) _)
  have HCA : Hid (CellsAt wa w.heap.size l) := Lib.hid (by
    rw [← hwa]
    exact cellsAt_below (cellsAt_lit w l _ _ (by rw [HCL.out])) (below_more (Below.refl _ _) _))
  have HCB : Hid (CellsAt wa (w.heap.size + 1) [BL, B1, B0]) := Lib.hid (by
    rw [← hwa]
    have := cellsAt_lit (w.alloc (.cells #[.int .u8 (C.toNat : Int), .int .u8 (B1.toNat : Int), .int .u8 (B0.toNat : Int)] 5)) [BL, B1, B0] #[.int .u8 (BL.toNat : Int), .int .u8 (B1.toNat : Int), .int .u8 (B0.toNat : Int)] 5 (by rw [HLL.out])
    simpa using this)
  clear hwa
  have kc := run_convert_at (P := Tryd.prog) 32 5 9 Tryd.underlying32 Tryd.underlying5 Tryd.underlying9 (cap := 3) HCA.out HLEN.out.symm
  have c1 := utf8_any ⟨l.toArray⟩ (by have := HLEN.out; show l.toArray.size ≤ _; simp; omega) wa (tabs_below HT.out HBA.out)
  rw [show (⟨l.toArray⟩ : ByteArray).data.toList = l from rfl, HV.out] at c1
  go_wp2_with fail
  refine c1.mono ?_
  rintro e wb ⟨rfl, hbb⟩
  have HBB := Lib.hid (below_then HBA.out hbb)
  have HCA2 := Lib.hid (cellsAt_below HCA.out hbb)
  have HCB2 := Lib.hid (cellsAt_below HCB.out hbb)
  clear hbb c1 kc HCA HCB HV
  by_cases hr0 : r = 0
  · subst hr0
    go_wp2_with fail
    refine (awake9_any _ (tabs_below HT.out HBB.out)).mono ?_
    rintro e we ⟨rfl, hbe⟩
    have HBE := Lib.hid (below_then HBB.out hbe)
    clear hbe
    go_wp2
    go_ret
    exact ⟨rfl, HBE.out⟩

  · have hrz : ((r : Int) == 0) = false := beq_eq_false_iff_ne.2 (by omega)
    have hrn : (r : Int) ≤ 3 := by omega
    have hrp : (0 : Int) ≤ (r : Int) := by omega
    have hlk : (l.take r).length = r := by rw [List.length_take, HLEN.out]; omega
    have kc := run_convert_at (P := Tryd.prog) 32 5 9 Tryd.underlying32 Tryd.underlying5 Tryd.underlying9 (cap := 3) (cellsAt_take HCA2.out r) hlk.symm
    have c1 := utf8_any ⟨(l.take r).toArray⟩ (by show (l.take r).toArray.size ≤ _; simp; omega) wb (tabs_below HT.out HBB.out)
    rw [show (⟨(l.take r).toArray⟩ : ByteArray).data.toList = l.take r from rfl, HS.out r (by omega) hr] at c1
    clear hlk hr hr0
    go_wp2_with fail
    refine c1.mono ?_
    rintro e wc ⟨rfl, hbc⟩
    have HBC := Lib.hid (below_then HBB.out hbc)
    have HCB3 := Lib.hid (cellsAt_below HCB2.out hbc)
    clear hbc c1 kc HCB2 HBB
    go_wp2_with fail
    refine (awake9_any _ (tabs_below HT.out HBC.out)).mono ?_
    rintro e we ⟨rfl, hbe⟩
    have HBE := Lib.hid (below_then HBC.out hbe)
    clear hbe
    go_wp2
    go_ret
    exact ⟨rfl, HBE.out⟩

set_option maxRecDepth 100000 in
set_option maxHeartbeats 4000000 in
theorem runes_threeb (x : Nat) (h1 : 55296 ≤ x) (h2 : x < 57344) (cut : Int) (hcut : -9223372036854775808 ≤ cut ∧ cut ≤ 9223372036854775807) (w : World) (hT : Tabs9 w) :
    Calls Tryd.prog 8 #[.int .i64 (x : Int), .int .i64 cut] w fun e w' => e = .returned (.bool true) ∧ Below w.heap.size w w' := by
  have HT := Lib.hid hT
  clear hT
  obtain ⟨m0, m1, m2, m15, q6, q12, q18, B0, B1, B2, BL, f1, f2, f3, f4, f5, f6, f7, f8, f9, f10, f11, t0, t1, t2, tl, k6, k12, k18⟩ := runes_facts x (by omega)
  have u0 := B0.toNat_lt
  have u1 := B1.toNat_lt
  have u2 := B2.toNat_lt
  have ul := BL.toNat_lt
  have w0 : IntKind.u8.wrap (B0.toNat : Int) = (B0.toNat : Int) := by rw [IntKind.wrap_u8]; omega
  have w1 : IntKind.u8.wrap (B1.toNat : Int) = (B1.toNat : Int) := by rw [IntKind.wrap_u8]; omega
  have w2 : IntKind.u8.wrap (B2.toNat : Int) = (B2.toNat : Int) := by rw [IntKind.wrap_u8]; omega
  have wl : IntKind.u8.wrap (BL.toNat : Int) = (BL.toNat : Int) := by rw [IntKind.wrap_u8]; omega
  obtain ⟨C, tc⟩ := byte_of (224 + x / 4096) (by omega)
  have cc : bits .or .i64 224 (q12 : Int) = (C.toNat : Int) := by rw [k12, tc]; exact or_hi 4 224 (x / 4096) (by decide) (by decide) (by decide) (by omega)
  have uc := C.toNat_lt
  have wc : IntKind.u8.wrap (C.toNat : Int) = (C.toNat : Int) := by rw [IntKind.wrap_u8]; omega
  obtain ⟨l, hl⟩ : ∃ l : List UInt8, l = [C, B1, B0] := ⟨_, rfl⟩
  have hlen : l.length = 3 := by rw [hl]; rfl
  have HV : Hid (Lib.validD l = false) := Lib.hid (by
    rw [hl]
    rw [pv3 C B1 B0 x (by omega) (by omega) (by unfold contN; omega) (by unfold contN; omega) (by omega)]
    exact decide_eq_false (fun h => h (by unfold badU; omega)))
  have HS : Hid (∀ k, 0 < k → k < 3 → Lib.validD (l.take k) = false) := Lib.hid (by
    intro k hk0 hk
    rw [hl]
    exact pv_short C _ k hk0 (by omega) (by omega))

  have z0 : ¬ (x : Int) < 0 := by omega
  have z1 : ¬ (2097151 : Int) < (x : Int) := by omega
  have y1 : ¬ (x : Int) < 128 := by omega
  have y2 : ¬ (x : Int) < 2048 := by omega
  have y3 : (x : Int) < 65536 := by omega
  have y2b : (2048 : Int) ≤ (x : Int) := by omega
  have y4 : (x : Int) ≤ 1114111 := by omega
  have y5 : ¬ (x : Int) < 55296 := by omega
  have y6 : ¬ (57343 : Int) < (x : Int) := by omega
  have HCL : Hid (l.map byteV = [.int .u8 (C.toNat : Int), .int .u8 (B1.toNat : Int), .int .u8 (B0.toNat : Int)]) := Lib.hid (by rw [hl]; rfl)
  have HLL : Hid (([BL, B1, B0] : List UInt8).map byteV = [.int .u8 (BL.toNat : Int), .int .u8 (B1.toNat : Int), .int .u8 (B0.toNat : Int)]) := Lib.hid rfl
  have hrd := fun W => round_any cut 3 W hcut (by decide)
  have HRD := Lib.hid hrd
  have HLEN := Lib.hid hlen
  clear hl hrd hlen h1 h2 t0 t1 t2 tl k6 k12 k18 u0 u1 u2 ul uc tc
  go_enter Tryd.func8, Tryd.ntmps8
  go_wp2_with fail
  refine (HRD.out _).mono ?_
  rintro e wa ⟨⟨r, hr, rfl⟩, hwa⟩
  have HBA : Hid (Below w.heap.size w wa) := Lib.hid (by rw [← hwa]; exact below_more (below_more (Below.refl _ _) _) _)
  have HCA : Hid (CellsAt wa w.heap.size l) := Lib.hid (by
    rw [← hwa]
    exact cellsAt_below (cellsAt_lit w l _ _ (by rw [HCL.out])) (below_more (Below.refl _ _) _))
  have HCB : Hid (CellsAt wa (w.heap.size + 1) [BL, B1, B0]) := Lib.hid (by
    rw [← hwa]
    have := cellsAt_lit (w.alloc (.cells #[.int .u8 (C.toNat : Int), .int .u8 (B1.toNat : Int), .int .u8 (B0.toNat : Int)] 5)) [BL, B1, B0] #[.int .u8 (BL.toNat : Int), .int .u8 (B1.toNat : Int), .int .u8 (B0.toNat : Int)] 5 (by rw [HLL.out])
    simpa using this)
  clear hwa
  have kc := run_convert_at (P := Tryd.prog) 32 5 9 Tryd.underlying32 Tryd.underlying5 Tryd.underlying9 (cap := 3) HCA.out HLEN.out.symm
  have c1 := utf8_any ⟨l.toArray⟩ (by have := HLEN.out; show l.toArray.size ≤ _; simp; omega) wa (tabs_below HT.out HBA.out)
  rw [show (⟨l.toArray⟩ : ByteArray).data.toList = l from rfl, HV.out] at c1
  go_wp2_with fail
  refine c1.mono ?_
  rintro e wb ⟨rfl, hbb⟩
  have HBB := Lib.hid (below_then HBA.out hbb)
  have HCA2 := Lib.hid (cellsAt_below HCA.out hbb)
  have HCB2 := Lib.hid (cellsAt_below HCB.out hbb)
  clear hbb c1 kc HCA HCB HV
  by_cases hr0 : r = 0
  · subst hr0
    go_wp2_with fail
    refine (awake9_any _ (tabs_below HT.out HBB.out)).mono ?_
    rintro e we ⟨rfl, hbe⟩
    have HBE := Lib.hid (below_then HBB.out hbe)
    clear hbe
    go_wp2
    go_ret
    exact ⟨rfl, HBE.out⟩

  · have hrz : ((r : Int) == 0) = false := beq_eq_false_iff_ne.2 (by omega)
    have hrn : (r : Int) ≤ 3 := by omega
    have hrp : (0 : Int) ≤ (r : Int) := by omega
    have hlk : (l.take r).length = r := by rw [List.length_take, HLEN.out]; omega
    have kc := run_convert_at (P := Tryd.prog) 32 5 9 Tryd.underlying32 Tryd.underlying5 Tryd.underlying9 (cap := 3) (cellsAt_take HCA2.out r) hlk.symm
    have c1 := utf8_any ⟨(l.take r).toArray⟩ (by show (l.take r).toArray.size ≤ _; simp; omega) wb (tabs_below HT.out HBB.out)
    rw [show (⟨(l.take r).toArray⟩ : ByteArray).data.toList = l.take r from rfl, HS.out r (by omega) hr] at c1
    clear hlk hr hr0
    go_wp2_with fail
    refine c1.mono ?_
    rintro e wc ⟨rfl, hbc⟩
    have HBC := Lib.hid (below_then HBB.out hbc)
    have HCB3 := Lib.hid (cellsAt_below HCB2.out hbc)
    clear hbc c1 kc HCB2 HBB
    go_wp2_with fail
    refine (awake9_any _ (tabs_below HT.out HBC.out)).mono ?_
    rintro e we ⟨rfl, hbe⟩
    have HBE := Lib.hid (below_then HBC.out hbe)
    clear hbe
    go_wp2
    go_ret
    exact ⟨rfl, HBE.out⟩

set_option maxRecDepth 100000 in
set_option maxHeartbeats 4000000 in
theorem runes_threec (x : Nat) (h1 : 57344 ≤ x) (h2 : x < 65536) (cut : Int) (hcut : -9223372036854775808 ≤ cut ∧ cut ≤ 9223372036854775807) (w : World) (hT : Tabs9 w) :
    Calls Tryd.prog 8 #[.int .i64 (x : Int), .int .i64 cut] w fun e w' => e = .returned (.bool true) ∧ Below w.heap.size w w' := by
  have HT := Lib.hid hT
  clear hT
  obtain ⟨m0, m1, m2, m15, q6, q12, q18, B0, B1, B2, BL, f1, f2, f3, f4, f5, f6, f7, f8, f9, f10, f11, t0, t1, t2, tl, k6, k12, k18⟩ := runes_facts x (by omega)
  have u0 := B0.toNat_lt
  have u1 := B1.toNat_lt
  have u2 := B2.toNat_lt
  have ul := BL.toNat_lt
  have w0 : IntKind.u8.wrap (B0.toNat : Int) = (B0.toNat : Int) := by rw [IntKind.wrap_u8]; omega
  have w1 : IntKind.u8.wrap (B1.toNat : Int) = (B1.toNat : Int) := by rw [IntKind.wrap_u8]; omega
  have w2 : IntKind.u8.wrap (B2.toNat : Int) = (B2.toNat : Int) := by rw [IntKind.wrap_u8]; omega
  have wl : IntKind.u8.wrap (BL.toNat : Int) = (BL.toNat : Int) := by rw [IntKind.wrap_u8]; omega
  obtain ⟨C, tc⟩ := byte_of (224 + x / 4096) (by omega)
  have cc : bits .or .i64 224 (q12 : Int) = (C.toNat : Int) := by rw [k12, tc]; exact or_hi 4 224 (x / 4096) (by decide) (by decide) (by decide) (by omega)
  have uc := C.toNat_lt
  have wc : IntKind.u8.wrap (C.toNat : Int) = (C.toNat : Int) := by rw [IntKind.wrap_u8]; omega
  obtain ⟨l, hl⟩ : ∃ l : List UInt8, l = [C, B1, B0] := ⟨_, rfl⟩
  have hlen : l.length = 3 := by rw [hl]; rfl
  have HV : Hid (Lib.validD l = true) := Lib.hid (by
    rw [hl]
    rw [pv3 C B1 B0 x (by omega) (by omega) (by unfold contN; omega) (by unfold contN; omega) (by omega)]
    exact decide_eq_true (fun h => by unfold badU at h; omega))
  have HS : Hid (∀ k, 0 < k → k < 3 → Lib.validD (l.take k) = false) := Lib.hid (by
    intro k hk0 hk
    rw [hl]
    exact pv_short C _ k hk0 (by omega) (by omega))

  have z0 : ¬ (x : Int) < 0 := by omega
  have z1 : ¬ (2097151 : Int) < (x : Int) := by omega
  have y1 : ¬ (x : Int) < 128 := by omega
  have y2 : ¬ (x : Int) < 2048 := by omega
  have y3 : (x : Int) < 65536 := by omega
  have y2b : (2048 : Int) ≤ (x : Int) := by omega
  have y4 : (x : Int) ≤ 1114111 := by omega
  have y5 : ¬ (x : Int) < 55296 := by omega
  have y6 : (57343 : Int) < (x : Int) := by omega
  have HCL : Hid (l.map byteV = [.int .u8 (C.toNat : Int), .int .u8 (B1.toNat : Int), .int .u8 (B0.toNat : Int)]) := Lib.hid (by rw [hl]; rfl)
  have HLL : Hid (([BL, B1, B0] : List UInt8).map byteV = [.int .u8 (BL.toNat : Int), .int .u8 (B1.toNat : Int), .int .u8 (B0.toNat : Int)]) := Lib.hid rfl
  have hrd := fun W => round_any cut 3 W hcut (by decide)
  have HRD := Lib.hid hrd
  have HLEN := Lib.hid hlen
  clear hl hrd hlen h1 h2 t0 t1 t2 tl k6 k12 k18 u0 u1 u2 ul uc tc
  go_enter Tryd.func8, Tryd.ntmps8
  go_wp2_with fail
  refine (HRD.out _).mono ?_
  rintro e wa ⟨⟨r, hr, rfl⟩, hwa⟩
  have HBA : Hid (Below w.heap.size w wa) := Lib.hid (by rw [← hwa]; exact below_more (below_more (Below.refl _ _) _) _)
  have HCA : Hid (CellsAt wa w.heap.size l) := Lib.hid (by
    rw [← hwa]
    exact cellsAt_below (cellsAt_lit w l _ _ (by rw [HCL.out])) (below_more (Below.refl _ _) _))
  have HCB : Hid (CellsAt wa (w.heap.size + 1) [BL, B1, B0]) := Lib.hid (by
    rw [← hwa]
    have := cellsAt_lit (w.alloc (.cells #[.int .u8 (C.toNat : Int), .int .u8 (B1.toNat : Int), .int .u8 (B0.toNat : Int)] 5)) [BL, B1, B0] #[.int .u8 (BL.toNat : Int), .int .u8 (B1.toNat : Int), .int .u8 (B0.toNat : Int)] 5 (by rw [HLL.out])
    simpa using this)
  clear hwa
  have kc := run_convert_at (P := Tryd.prog) 32 5 9 Tryd.underlying32 Tryd.underlying5 Tryd.underlying9 (cap := 3) HCA.out HLEN.out.symm
  have c1 := utf8_any ⟨l.toArray⟩ (by have := HLEN.out; show l.toArray.size ≤ _; simp; omega) wa (tabs_below HT.out HBA.out)
  rw [show (⟨l.toArray⟩ : ByteArray).data.toList = l from rfl, HV.out] at c1
  go_wp2_with fail
  refine c1.mono ?_
  rintro e wb ⟨rfl, hbb⟩
  have HBB := Lib.hid (below_then HBA.out hbb)
  have HCA2 := Lib.hid (cellsAt_below HCA.out hbb)
  have HCB2 := Lib.hid (cellsAt_below HCB.out hbb)
  clear hbb c1 kc HCA HCB HV
  by_cases hr0 : r = 0
  · subst hr0
    go_wp2_with fail
    refine (awake9_any _ (tabs_below HT.out HBB.out)).mono ?_
    rintro e we ⟨rfl, hbe⟩
    have HBE := Lib.hid (below_then HBB.out hbe)
    clear hbe
    go_wp2
    go_ret
    exact ⟨rfl, HBE.out⟩

  · have hrz : ((r : Int) == 0) = false := beq_eq_false_iff_ne.2 (by omega)
    have hrn : (r : Int) ≤ 3 := by omega
    have hrp : (0 : Int) ≤ (r : Int) := by omega
    have hlk : (l.take r).length = r := by rw [List.length_take, HLEN.out]; omega
    have kc := run_convert_at (P := Tryd.prog) 32 5 9 Tryd.underlying32 Tryd.underlying5 Tryd.underlying9 (cap := 3) (cellsAt_take HCA2.out r) hlk.symm
    have c1 := utf8_any ⟨(l.take r).toArray⟩ (by show (l.take r).toArray.size ≤ _; simp; omega) wb (tabs_below HT.out HBB.out)
    rw [show (⟨(l.take r).toArray⟩ : ByteArray).data.toList = l.take r from rfl, HS.out r (by omega) hr] at c1
    clear hlk hr hr0
    go_wp2_with fail
    refine c1.mono ?_
    rintro e wc ⟨rfl, hbc⟩
    have HBC := Lib.hid (below_then HBB.out hbc)
    have HCB3 := Lib.hid (cellsAt_below HCB2.out hbc)
    clear hbc c1 kc HCB2 HBB
    go_wp2_with fail
    refine (awake9_any _ (tabs_below HT.out HBC.out)).mono ?_
    rintro e we ⟨rfl, hbe⟩
    have HBE := Lib.hid (below_then HBC.out hbe)
    clear hbe
    go_wp2
    go_ret
    exact ⟨rfl, HBE.out⟩

set_option maxRecDepth 100000 in
set_option maxHeartbeats 4000000 in
theorem runes_foura (x : Nat) (h1 : 65536 ≤ x) (h2 : x < 1114112) (cut : Int) (hcut : -9223372036854775808 ≤ cut ∧ cut ≤ 9223372036854775807) (w : World) (hT : Tabs9 w) :
    Calls Tryd.prog 8 #[.int .i64 (x : Int), .int .i64 cut] w fun e w' => e = .returned (.bool true) ∧ Below w.heap.size w w' := by
  have HT := Lib.hid hT
  clear hT
  obtain ⟨m0, m1, m2, m15, q6, q12, q18, B0, B1, B2, BL, f1, f2, f3, f4, f5, f6, f7, f8, f9, f10, f11, t0, t1, t2, tl, k6, k12, k18⟩ := runes_facts x (by omega)
  have u0 := B0.toNat_lt
  have u1 := B1.toNat_lt
  have u2 := B2.toNat_lt
  have ul := BL.toNat_lt
  have w0 : IntKind.u8.wrap (B0.toNat : Int) = (B0.toNat : Int) := by rw [IntKind.wrap_u8]; omega
  have w1 : IntKind.u8.wrap (B1.toNat : Int) = (B1.toNat : Int) := by rw [IntKind.wrap_u8]; omega
  have w2 : IntKind.u8.wrap (B2.toNat : Int) = (B2.toNat : Int) := by rw [IntKind.wrap_u8]; omega
  have wl : IntKind.u8.wrap (BL.toNat : Int) = (BL.toNat : Int) := by rw [IntKind.wrap_u8]; omega
  obtain ⟨C, tc⟩ := byte_of (240 + x / 262144) (by omega)
  have cc : bits .or .i64 240 (q18 : Int) = (C.toNat : Int) := by rw [k18, tc]; exact or_hi 3 240 (x / 262144) (by decide) (by decide) (by decide) (by omega)
  have uc := C.toNat_lt
  have wc : IntKind.u8.wrap (C.toNat : Int) = (C.toNat : Int) := by rw [IntKind.wrap_u8]; omega
  obtain ⟨l, hl⟩ : ∃ l : List UInt8, l = [C, B2, B1, B0] := ⟨_, rfl⟩
  have hlen : l.length = 4 := by rw [hl]; rfl
  have HV : Hid (Lib.validD l = true) := Lib.hid (by
    rw [hl]
    rw [pv4 C B2 B1 B0 x (by omega) (by omega) (by unfold contN; omega) (by unfold contN; omega) (by unfold contN; omega) (by omega)]
    exact decide_eq_true (fun h => by unfold badU at h; omega))
  have HS : Hid (∀ k, 0 < k → k < 4 → Lib.validD (l.take k) = false) := Lib.hid (by
    intro k hk0 hk
    rw [hl]
    exact pv_short C _ k hk0 (by omega) (by omega))

  have z0 : ¬ (x : Int) < 0 := by omega
  have z1 : ¬ (2097151 : Int) < (x : Int) := by omega
  have y1 : ¬ (x : Int) < 128 := by omega
  have y2 : ¬ (x : Int) < 2048 := by omega
  have y3 : ¬ (x : Int) < 65536 := by omega
  have y2b : (2048 : Int) ≤ (x : Int) := by omega
  have y4 : (x : Int) ≤ 1114111 := by omega
  have y5 : ¬ (x : Int) < 55296 := by omega
  have y6 : (57343 : Int) < (x : Int) := by omega
  have HCL : Hid (l.map byteV = [.int .u8 (C.toNat : Int), .int .u8 (B2.toNat : Int), .int .u8 (B1.toNat : Int), .int .u8 (B0.toNat : Int)]) := Lib.hid (by rw [hl]; rfl)
  have HLL : Hid (([BL, B1, B0] : List UInt8).map byteV = [.int .u8 (BL.toNat : Int), .int .u8 (B1.toNat : Int), .int .u8 (B0.toNat : Int)]) := Lib.hid rfl
  have hrd := fun W => round_any cut 4 W hcut (by decide)
  have HRD := Lib.hid hrd
  have HLEN := Lib.hid hlen
  clear hl hrd hlen h1 h2 t0 t1 t2 tl k6 k12 k18 u0 u1 u2 ul uc tc
  go_enter Tryd.func8, Tryd.ntmps8
  go_wp2_with fail
  refine (HRD.out _).mono ?_
  rintro e wa ⟨⟨r, hr, rfl⟩, hwa⟩
  have HBA : Hid (Below w.heap.size w wa) := Lib.hid (by rw [← hwa]; exact below_more (below_more (Below.refl _ _) _) _)
  have HCA : Hid (CellsAt wa w.heap.size l) := Lib.hid (by
    rw [← hwa]
    exact cellsAt_below (cellsAt_lit w l _ _ (by rw [HCL.out])) (below_more (Below.refl _ _) _))
  have HCB : Hid (CellsAt wa (w.heap.size + 1) [BL, B1, B0]) := Lib.hid (by
    rw [← hwa]
    have := cellsAt_lit (w.alloc (.cells #[.int .u8 (C.toNat : Int), .int .u8 (B2.toNat : Int), .int .u8 (B1.toNat : Int), .int .u8 (B0.toNat : Int)] 5)) [BL, B1, B0] #[.int .u8 (BL.toNat : Int), .int .u8 (B1.toNat : Int), .int .u8 (B0.toNat : Int)] 5 (by rw [HLL.out])
    simpa using this)
  clear hwa
  have kc := run_convert_at (P := Tryd.prog) 32 5 9 Tryd.underlying32 Tryd.underlying5 Tryd.underlying9 (cap := 4) HCA.out HLEN.out.symm
  have c1 := utf8_any ⟨l.toArray⟩ (by have := HLEN.out; show l.toArray.size ≤ _; simp; omega) wa (tabs_below HT.out HBA.out)
  rw [show (⟨l.toArray⟩ : ByteArray).data.toList = l from rfl, HV.out] at c1
  go_wp2_with fail
  refine c1.mono ?_
  rintro e wb ⟨rfl, hbb⟩
  have HBB := Lib.hid (below_then HBA.out hbb)
  have HCA2 := Lib.hid (cellsAt_below HCA.out hbb)
  have HCB2 := Lib.hid (cellsAt_below HCB.out hbb)
  clear hbb c1 kc HCA HCB HV
  by_cases hr0 : r = 0
  · subst hr0
    go_wp2_with fail
    refine (awake9_any _ (tabs_below HT.out HBB.out)).mono ?_
    rintro e we ⟨rfl, hbe⟩
    have HBE := Lib.hid (below_then HBB.out hbe)
    clear hbe
    go_wp2
    go_ret
    exact ⟨rfl, HBE.out⟩

  · have hrz : ((r : Int) == 0) = false := beq_eq_false_iff_ne.2 (by omega)
    have hrn : (r : Int) ≤ 4 := by omega
    have hrp : (0 : Int) ≤ (r : Int) := by omega
    have hlk : (l.take r).length = r := by rw [List.length_take, HLEN.out]; omega
    have kc := run_convert_at (P := Tryd.prog) 32 5 9 Tryd.underlying32 Tryd.underlying5 Tryd.underlying9 (cap := 4) (cellsAt_take HCA2.out r) hlk.symm
    have c1 := utf8_any ⟨(l.take r).toArray⟩ (by show (l.take r).toArray.size ≤ _; simp; omega) wb (tabs_below HT.out HBB.out)
    rw [show (⟨(l.take r).toArray⟩ : ByteArray).data.toList = l.take r from rfl, HS.out r (by omega) hr] at c1
    clear hlk hr hr0
    go_wp2_with fail
    refine c1.mono ?_
    rintro e wc ⟨rfl, hbc⟩
    have HBC := Lib.hid (below_then HBB.out hbc)
    have HCB3 := Lib.hid (cellsAt_below HCB2.out hbc)
    clear hbc c1 kc HCB2 HBB
    go_wp2_with fail
    refine (awake9_any _ (tabs_below HT.out HBC.out)).mono ?_
    rintro e we ⟨rfl, hbe⟩
    have HBE := Lib.hid (below_then HBC.out hbe)
    clear hbe
    go_wp2
    go_ret
    exact ⟨rfl, HBE.out⟩

set_option maxRecDepth 100000 in
set_option maxHeartbeats 4000000 in
theorem runes_fourb (x : Nat) (h1 : 1114112 ≤ x) (h2 : x < 2097152) (cut : Int) (hcut : -9223372036854775808 ≤ cut ∧ cut ≤ 9223372036854775807) (w : World) (hT : Tabs9 w) :
    Calls Tryd.prog 8 #[.int .i64 (x : Int), .int .i64 cut] w fun e w' => e = .returned (.bool true) ∧ Below w.heap.size w w' := by
  have HT := Lib.hid hT
  clear hT
  obtain ⟨m0, m1, m2, m15, q6, q12, q18, B0, B1, B2, BL, f1, f2, f3, f4, f5, f6, f7, f8, f9, f10, f11, t0, t1, t2, tl, k6, k12, k18⟩ := runes_facts x (by omega)
  have u0 := B0.toNat_lt
  have u1 := B1.toNat_lt
  have u2 := B2.toNat_lt
  have ul := BL.toNat_lt
  have w0 : IntKind.u8.wrap (B0.toNat : Int) = (B0.toNat : Int) := by rw [IntKind.wrap_u8]; omega
  have w1 : IntKind.u8.wrap (B1.toNat : Int) = (B1.toNat : Int) := by rw [IntKind.wrap_u8]; omega
  have w2 : IntKind.u8.wrap (B2.toNat : Int) = (B2.toNat : Int) := by rw [IntKind.wrap_u8]; omega
  have wl : IntKind.u8.wrap (BL.toNat : Int) = (BL.toNat : Int) := by rw [IntKind.wrap_u8]; omega
  obtain ⟨C, tc⟩ := byte_of (240 + x / 262144) (by omega)
  have cc : bits .or .i64 240 (q18 : Int) = (C.toNat : Int) := by rw [k18, tc]; exact or_hi 3 240 (x / 262144) (by decide) (by decide) (by decide) (by omega)
  have uc := C.toNat_lt
  have wc : IntKind.u8.wrap (C.toNat : Int) = (C.toNat : Int) := by rw [IntKind.wrap_u8]; omega
  obtain ⟨l, hl⟩ : ∃ l : List UInt8, l = [C, B2, B1, B0] := ⟨_, rfl⟩
  have hlen : l.length = 4 := by rw [hl]; rfl
  have HV : Hid (Lib.validD l = false) := Lib.hid (by
    rw [hl]
    by_cases hc : 245 ≤ C.toNat
    · exact pv_none C _ hc
    · rw [pv4 C B2 B1 B0 x (by omega) (by omega) (by unfold contN; omega) (by unfold contN; omega) (by unfold contN; omega) (by omega)]
      exact decide_eq_false (fun h => h (by unfold badU; omega)))
  have HS : Hid (∀ k, 0 < k → k < 4 → Lib.validD (l.take k) = false) := Lib.hid (by
    intro k hk0 hk
    rw [hl]
    exact pv_short C _ k hk0 (by omega) (by omega))

  have z0 : ¬ (x : Int) < 0 := by omega
  have z1 : ¬ (2097151 : Int) < (x : Int) := by omega
  have y1 : ¬ (x : Int) < 128 := by omega
  have y2 : ¬ (x : Int) < 2048 := by omega
  have y3 : ¬ (x : Int) < 65536 := by omega
  have y2b : (2048 : Int) ≤ (x : Int) := by omega
  have y4 : ¬ (x : Int) ≤ 1114111 := by omega
  have y5 : ¬ (x : Int) < 55296 := by omega
  have y6 : (57343 : Int) < (x : Int) := by omega
  have HCL : Hid (l.map byteV = [.int .u8 (C.toNat : Int), .int .u8 (B2.toNat : Int), .int .u8 (B1.toNat : Int), .int .u8 (B0.toNat : Int)]) := Lib.hid (by rw [hl]; rfl)
  have HLL : Hid (([BL, B1, B0] : List UInt8).map byteV = [.int .u8 (BL.toNat : Int), .int .u8 (B1.toNat : Int), .int .u8 (B0.toNat : Int)]) := Lib.hid rfl
  have hrd := fun W => round_any cut 4 W hcut (by decide)
  have HRD := Lib.hid hrd
  have HLEN := Lib.hid hlen
  clear hl hrd hlen h1 h2 t0 t1 t2 tl k6 k12 k18 u0 u1 u2 ul uc tc
  go_enter Tryd.func8, Tryd.ntmps8
  go_wp2_with fail
  refine (HRD.out _).mono ?_
  rintro e wa ⟨⟨r, hr, rfl⟩, hwa⟩
  have HBA : Hid (Below w.heap.size w wa) := Lib.hid (by rw [← hwa]; exact below_more (below_more (Below.refl _ _) _) _)
  have HCA : Hid (CellsAt wa w.heap.size l) := Lib.hid (by
    rw [← hwa]
    exact cellsAt_below (cellsAt_lit w l _ _ (by rw [HCL.out])) (below_more (Below.refl _ _) _))
  have HCB : Hid (CellsAt wa (w.heap.size + 1) [BL, B1, B0]) := Lib.hid (by
    rw [← hwa]
    have := cellsAt_lit (w.alloc (.cells #[.int .u8 (C.toNat : Int), .int .u8 (B2.toNat : Int), .int .u8 (B1.toNat : Int), .int .u8 (B0.toNat : Int)] 5)) [BL, B1, B0] #[.int .u8 (BL.toNat : Int), .int .u8 (B1.toNat : Int), .int .u8 (B0.toNat : Int)] 5 (by rw [HLL.out])
    simpa using this)
  clear hwa
  have kc := run_convert_at (P := Tryd.prog) 32 5 9 Tryd.underlying32 Tryd.underlying5 Tryd.underlying9 (cap := 4) HCA.out HLEN.out.symm
  have c1 := utf8_any ⟨l.toArray⟩ (by have := HLEN.out; show l.toArray.size ≤ _; simp; omega) wa (tabs_below HT.out HBA.out)
  rw [show (⟨l.toArray⟩ : ByteArray).data.toList = l from rfl, HV.out] at c1
  go_wp2_with fail
  refine c1.mono ?_
  rintro e wb ⟨rfl, hbb⟩
  have HBB := Lib.hid (below_then HBA.out hbb)
  have HCA2 := Lib.hid (cellsAt_below HCA.out hbb)
  have HCB2 := Lib.hid (cellsAt_below HCB.out hbb)
  clear hbb c1 kc HCA HCB HV
  by_cases hr0 : r = 0
  · subst hr0
    go_wp2_with fail
    refine (awake9_any _ (tabs_below HT.out HBB.out)).mono ?_
    rintro e we ⟨rfl, hbe⟩
    have HBE := Lib.hid (below_then HBB.out hbe)
    clear hbe
    go_wp2
    go_ret
    exact ⟨rfl, HBE.out⟩

  · have hrz : ((r : Int) == 0) = false := beq_eq_false_iff_ne.2 (by omega)
    have hrn : (r : Int) ≤ 4 := by omega
    have hrp : (0 : Int) ≤ (r : Int) := by omega
    have hlk : (l.take r).length = r := by rw [List.length_take, HLEN.out]; omega
    have kc := run_convert_at (P := Tryd.prog) 32 5 9 Tryd.underlying32 Tryd.underlying5 Tryd.underlying9 (cap := 4) (cellsAt_take HCA2.out r) hlk.symm
    have c1 := utf8_any ⟨(l.take r).toArray⟩ (by show (l.take r).toArray.size ≤ _; simp; omega) wb (tabs_below HT.out HBB.out)
    rw [show (⟨(l.take r).toArray⟩ : ByteArray).data.toList = l.take r from rfl, HS.out r (by omega) hr] at c1
    clear hlk hr hr0
    go_wp2_with fail
    refine c1.mono ?_
    rintro e wc ⟨rfl, hbc⟩
    have HBC := Lib.hid (below_then HBB.out hbc)
    have HCB3 := Lib.hid (cellsAt_below HCB2.out hbc)
    clear hbc c1 kc HCB2 HBB
    go_wp2_with fail
    refine (awake9_any _ (tabs_below HT.out HBC.out)).mono ?_
    rintro e we ⟨rfl, hbe⟩
    have HBE := Lib.hid (below_then HBC.out hbe)
    clear hbe
    go_wp2
    go_ret
    exact ⟨rfl, HBE.out⟩

theorem percentRunes_any (u : Int) (_hu : -9223372036854775808 ≤ u ∧ u ≤ 9223372036854775807) (cut : Int) (hcut : -9223372036854775808 ≤ cut ∧ cut ≤ 9223372036854775807) (w : World) (hT : Tabs9 w) :
    Calls Tryd.prog 8 #[.int .i64 u, .int .i64 cut] w fun e w' => e = .returned (.bool true) ∧ Below w.heap.size w w' := by
  by_cases h0 : u < 0
  · have HT := Lib.hid hT
    clear hT
    go_enter Tryd.func8, Tryd.ntmps8
    go_wp2_with fail
    refine (awake9_any _ HT.out).mono ?_
    rintro e w' ⟨rfl, hb1⟩
    go_wp2
    go_ret
    exact ⟨rfl, hb1⟩
  by_cases h1 : 2097151 < u
  · have HT := Lib.hid hT
    clear hT
    go_enter Tryd.func8, Tryd.ntmps8
    go_wp2_with fail
    refine (awake9_any _ HT.out).mono ?_
    rintro e w' ⟨rfl, hb1⟩
    go_wp2
    go_ret
    exact ⟨rfl, hb1⟩
  obtain ⟨x, rfl⟩ : ∃ x : Nat, u = x := ⟨u.toNat, by omega⟩
  rcases Nat.lt_or_ge x 128 with a | a
  · exact runes_one x (by omega) a cut hcut w hT
  rcases Nat.lt_or_ge x 2048 with b | b
  · exact runes_two x a b cut hcut w hT
  rcases Nat.lt_or_ge x 55296 with c | c
  · exact runes_threea x b c cut hcut w hT
  rcases Nat.lt_or_ge x 57344 with d | d
  · exact runes_threeb x c d cut hcut w hT
  rcases Nat.lt_or_ge x 65536 with e | e
  · exact runes_threec x d e cut hcut w hT
  rcases Nat.lt_or_ge x 1114112 with f | f
  · exact runes_foura x e f cut hcut w hT
  · exact runes_fourb x f (by omega) cut hcut w hT

theorem percentRunes_own : ownKnob Tryd.prog.godebug = none := by kernel_rfl

theorem percentRunes_contract (H : Type) (enc : TypeId × Value → H) (W : World) (base : Nat) (args : Array Value) (ds gs : List (DataW H)) (before : List MemPlace)
    (hval0 : ∀ (j : Nat) t v, Tryd.f8.params[j]? = some t → args[j]? = some v → Value.okWide Tryd.prog W .any base t v)
    (hW : DataW.Whole enc Tryd.prog Tryd.f8.params.toList Rows.percentRunesSpec.vars false W args.toList ds gs before) {vt : List TypeId}
    (hsz0 : (DataW.weightsEach Tryd.prog (Tryd.f8.params.toList ++ vt) (ds ++ gs)).all (· ≤ reachBytes) = true) (hL : laidMetH Tryd.prog Rows.percentRunesRow.laid W) :
    Calls Tryd.prog 8 args W fun e W' => ∃ v, e = .returned v ∧ Rows.percentRunesSpec.post enc Tryd.prog Tryd.f8 false true false false W args v W' := by
  refine law_contract (by kernel_rfl) (of_decide_eq_true (by kernel_rfl)) (tb := 4) (by kernel_rfl) Tryd.underlying4 rfl (fun ds h => by match ds, h with | [d0, d1], _ => exact ⟨rfl, rfl, rfl⟩) hW hsz0 ?_
  intro p hA0 hlt hszz
  have hval := hval0
  have hA : DataW.TrodAll enc Tryd.prog W 0 (fun _ => true) true Tryd.f8.params.toList args.toList ds p := hA0
  have hsz : (DataW.weightsEach Tryd.prog Tryd.f8.params.toList ds).all (· ≤ reachBytes) = true := hszz
  clear hval0 hA0 hszz hsz0 hW
  rw [Tryd.params8] at hA hval hsz
  obtain ⟨v0, vs0, d0, ds0, p0, q0, hargs, rfl, rfl, h0, r0⟩ := trodAll_cons hA
  obtain ⟨v1, vs1, d1, ds1, p1, q1, rfl, rfl, rfl, h1, r1⟩ := trodAll_cons r0
  obtain ⟨rfl, rfl, rfl⟩ := trodAll_nil r1
  obtain rfl : args = #[v0, v1] := by cases args; simp_all
  obtain ⟨a0, rfl, rfl, rfl, w0⟩ := open_int Tryd.underlying3 (hval 0 3 v0 rfl rfl) h0
  obtain ⟨a1, rfl, rfl, rfl, w1⟩ := open_int Tryd.underlying3 (hval 1 3 v1 rfl rfl) h1
  exact percentRunes_any (w := W) a0 (bounds_i64 w0) a1 (bounds_i64 w1) (tabs_of hL)

noncomputable def percentRunes_world (os : Os) : World := laidIn Tryd.prog Rows.percentRunesRow.laid (World.holding Tryd.prog os ⟨#[], #[], []⟩)

theorem percentRunes_met (os : Os) : laidMet Tryd.prog Rows.percentRunesRow.laid ((percentRunes_world os).forCall (fun _ _ => 0) ⟨#[], #[.int .i64 0, .int .i64 0], []⟩).memory :=
  laidMet_of_run' 8 (by kernel_rfl) (by kernel_rfl)

theorem percentRunes_reads (os : Os) {H : Type} (enc : TypeId × Value → H) : ∃ places, DataW.whole enc Tryd.prog ((percentRunes_world os).forCall (fun _ _ => 0) ⟨#[], #[.int .i64 0, .int .i64 0], []⟩).memory Tryd.f8.params.toList Rows.percentRunesSpec.vars false (#[.int .i64 0, .int .i64 0] : Array Value).toList 8 = some ([.lit (.int .i64 0), .lit (.int .i64 0)], [], places) :=
  ⟨[], by kernel_rfl⟩

set_option maxRecDepth 100000 in
theorem percentRunes_lifted (os : Os) (started : os.Started) (H : Type) (enc : TypeId × Value → H) (F : Stop.Interp) :
    ReturnsInHanded {} Tryd.checked os 8 .any ((OpenSpec.ofChange Rows.percentRunesSpec).preRow enc Tryd.prog Tryd.f8 Rows.percentRunesRow.domain false Rows.percentRunesRow.laid) (((OpenSpec.ofChange Rows.percentRunesSpec).at F).post enc Tryd.prog Tryd.f8 false true false false) := by
  obtain ⟨places, hx⟩ := percentRunes_reads os enc
  refine returnsInHanded_of_row (C := Tryd.checked) (s := OpenSpec.ofChange Rows.percentRunesSpec) percentRunes_own started (by kernel_rfl) Tryd.func8
    (witness_row_at (enc := enc) (C := Tryd.checked) false (percentRunes_world os) #[.int .i64 0, .int .i64 0] rfl (by kernel_rfl) (by kernel_rfl) (by kernel_rfl)
      (OpenSpec.preRow_of_cond 8 hx (by kernel_rfl) (fun k hk => by cases hk) (by kernel_rfl) (percentRunes_met os))) ?_
  intro W base args ds gs before hval hW _ _ hsz hL _ _
  exact percentRunes_contract H enc W base args ds gs before hval hW hsz hL

theorem percentRunes_said : Rows.PercentRunesSaid :=
  OpenClaim.holds_of_cond 8 Tryd.f8 rfl rfl rfl rfl rfl rfl rfl ⟨rfl, rfl, rfl, rfl, rfl⟩ rfl rfl rfl rfl rfl (by kernel_rfl) Tryd.func8 (by kernel_rfl)
    (of_decide_eq_true (by kernel_rfl)) (by unfold Func.isWrapper; first | (rw [if_pos (by decide +kernel)]; kernel_rfl) | (rw [if_neg (by decide +kernel)]; exact ⟨rfl, rfl⟩))
    (fun os started H enc _ F => by rw [OpenClaim.pre_eq_preRow]; exact percentRunes_lifted os started H enc F)

theorem percentRunes_plain (f : FuncId) (fn : Func) (hf : Tryd.pinned.checked.prog.funcNamed Tryd.f8.name = some f) (hfn : Tryd.pinned.checked.prog.funcs[f]? = some fn) :
    false = Tryd.pinned.checked.prog.looks [] ∧ ∀ (j : Nat) t, fn.params[j]? = some t → Tryd.pinned.checked.prog.wantsStandIn t = false := by
  obtain rfl : f = 8 := Option.some.inj ((show Tryd.prog.funcNamed Tryd.f8.name = some 8 by kernel_rfl).symm.trans hf) |>.symm
  obtain rfl : fn = Tryd.f8 := (Option.some.inj (Tryd.func8.symm.trans hfn)).symm
  refine ⟨by kernel_rfl, fun j t ht => ?_⟩
  have hall : ∀ t ∈ Tryd.f8.params, Tryd.prog.wantsStandIn t = false := of_decide_eq_true (by kernel_rfl)
  exact hall t (Array.mem_of_getElem? ht)

theorem percentRunes_card : Rows.PercentRunesCardSaid :=
  Claim7.holds_tied_plain_at .later [] _ _ _ _ percentRunes_said (fun _ h => by cases h) (by kernel_rfl) (fun _ h => by cases h) percentRunes_row_tie rfl ⟨rfl, rfl⟩ (by kernel_rfl) rfl percentRunes_plain (by kernel_rfl)
#print axioms percentRunes_card

end Go.Proofs.YtommhbfdkboeiaaDoor
