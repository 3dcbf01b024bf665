/- HostBases' own closures: a number as digits of a base, and as it is written. -/
import Derived.Deep.RegionHeldLaw
import Derived.Test.YtmfchplplpiogaaDoorProg
import Derived.Test.YtmfchplplpiogaaDoorKit
import Derived.Test.YtmfchplplpiogaaDoorPlain
import Derived.Test.YtmfchplplpiogaaDoorRow
import Derived.Test.YtmfchplplpiogaaDoorCod7
import Derived.Test.YtmfchplplpiogaaDoorFrm11
import Derived.Test.YtmfchplplpiogaaDoorStp
import Derived.Test.YtmfchplplpiogaaDoorHst0
import Derived.Test.YtmfchplplpiogaaDoorHst1
import Derived.Test.YtmfchplplpiogaaDoorHst6
import Derived.Test.YtmfchplplpiogaaDoorHsu0
import Derived.Test.YtmfchplplpiogaaDoorHsu1
import Derived.Test.YtmfchplplpiogaaDoorHsu2
namespace Go.Proofs.YtmfchplplpiogaaDoor
open Go.RowKit Go.Proofs

/-- The digits as a string. -/
def hlS : ByteArray := ⟨#[48, 49, 50, 51, 52, 53, 54, 55, 56, 57, 97, 98, 99, 100, 101, 102]⟩

theorem hlS_at : ∀ j : Fin 16, hlS.data[j.val]'(j.isLt) = hlB j.val := by decide +kernel

theorem run_lowdig {P : Program} {t : TypeId} (ht : P.underlying t = some .string) {q : Nat} (h : q < 16) (k : IntKind) (W : World) :
    (Instr.index t (.string hlS) (.int k (q : Int))).run P W = .ok (.int .u8 ((hlB q).toNat : Int)) W := by
  have hlt : 0 ≤ (q : Int) ∧ (q : Int) < hlS.size := ⟨by omega, by show (q : Int) < ((16 : Nat) : Int); omega⟩
  rw [run_index_string W t hlS k q ht, dif_pos hlt]
  have h2 := hlS_at ⟨q, h⟩
  have h3 : hlS[(q : Int).toNat]'(by rw [Int.toNat_natCast]; exact h) = hlB q := h2
  rw [h3]

theorem digs_size32 (b n : Nat) (hb : 8 ≤ b) (h : n < 4294967296) : (digs b n).length ≤ 12 := digs_len b hb 11 n (Nat.lt_of_lt_of_le h (by decide))

theorem bdig8_any (n : Nat) (hn : n < 4294967296) (w : World) :
    Calls Tryd.prog 20 #[.int .u32 (n : Int), .int .u32 8] w fun e w' => e = .returned (.string ⟨(digs 8 n).toArray⟩) ∧ Below w.heap.size w w' := by
  have HN := Lib.hid hn
  obtain ⟨nz, hnz⟩ : ∃ nz : Int, nz = (n : Int) := ⟨_, rfl⟩
  have hnz0 : 0 ≤ nz ∧ nz < 4294967296 := by omega
  have HNZ := Lib.hid hnz
  rw [← hnz]
  clear hnz hn
  go_enter Tryd.func20, Tryd.ntmps20
  go_wp2
  go_loopw [0, 5] (fun m s wr => ∃ (k : Nat) (z : Int) (t : ByteArray), m = .int .u32 z ∧ 0 ≤ z ∧ z < 4294967296 ∧ s = .string t ∧ t.size ≤ 100 ∧ Hid (z = (k : Int)) ∧ Hid (t.size + (digs 8 k).length ≤ 12) ∧ Hid (digs 8 n = (digs 8 k) ++ t.data.toList) ∧ Hid (Below w.heap.size w wr)) (fun m _ _ => (intOf m).toNat)
  case atStart => exact ⟨n, nz, ⟨#[]⟩, rfl, hnz0.1, hnz0.2, rfl, by decide, HNZ, Lib.hid (by have := digs_size32 8 n (by decide) HN.out; show 0 + _ ≤ 12; omega), Lib.hid (by simp), Lib.hid (Below.refl _ _)⟩
  case round =>
    obtain ⟨k, z, t, rfl, hz0, hz1, rfl, ht, HZ, HS, HD, HB⟩ := hrel
    obtain ⟨w1, hw1⟩ : ∃ w1 : World, w1 = wr := ⟨_, rfl⟩
    subst hw1
    obtain ⟨x, hx⟩ : ∃ x, x = hlB (k % 8) := ⟨_, rfl⟩
    obtain ⟨q, hqe⟩ : ∃ q : Nat, q = k % 8 := ⟨_, rfl⟩
    have hqz : z % 8 = (q : Int) := by rw [hqe]; have := HZ.out; omega
    have kq := fun W => run_lowdig (P := Tryd.prog) (t := 9) Tryd.underlying9 (show q < 16 by omega) .u32 W
    rw [hqe, ← hx, ← hqe] at kq
    unfold hlS at kq
    have hm : Int.tmod z 8 = z % 8 := Int.tmod_eq_emod_of_nonneg hz0
    have hd : Int.tdiv z 8 = z / 8 := Int.tdiv_eq_ediv_of_nonneg hz0
    have hx0 := byte_bd x
    have kc := conv_one x w1 (w1.alloc (.cells #[.int .u8 x.toNat] 5)) (Below.refl _ _)
    have HB4 := Lib.hid (below_more HB.out (.cells #[.int .u8 x.toNat] 5))
    obtain ⟨xz, hxz⟩ : ∃ xz : Int, xz = (x.toNat : Int) := ⟨_, rfl⟩
    rw [← hxz] at hx0 kc HB4 kq
    have hts : ¬ 9223372036854775807 < 1 + t.size := by omega
    have HST := Lib.hid (digs_step (b := 8) (n := k) (by decide))
    rw [← hx] at HST
    clear hx hxz hqe
    by_cases hq : z / 8 = 0
    · have hqb : (z / 8 == 0) = true := beq_iff_eq.2 hq
      have HE : Hid ((⟨(digs 8 n).toArray⟩ : ByteArray) = (⟨#[x]⟩ : ByteArray) ++ t) := Lib.hid (by
        refine (mk_list _ ?_).symm
        rw [app_mk, HD.out, HST.out, if_pos (by have := HZ.out; omega)]
        rfl)
      go_wp2
      go_ret
      exact ⟨ret_str HE.out.symm, HB4.out⟩
    · have hqb : (z / 8 == 0) = false := beq_eq_false_iff_ne.2 hq
      have hkq : ¬ k / 8 = 0 := by have := HZ.out; omega
      have HST2 := HST.out
      rw [if_neg hkq] at HST2
      have HST3 := Lib.hid HST2
      clear HST2
      go_wp2
      go_roundw
      case rel => exact ⟨k / 8, z / 8, _, rfl, by omega, by omega, rfl, lsz_one (b := (digs 8 (k / 8)).length) HS.out (by rw [HST3.out, List.length_append]; rfl), Lib.hid (by have := HZ.out; omega), Lib.hid (lsz (b := (digs 8 (k / 8)).length) HS.out (by rw [HST3.out, List.length_append]; rfl)), Lib.hid (by rw [HD.out, HST3.out, app_mk]; simp), HB4⟩
      case measure => simp [intOf]; omega

theorem bdig10_any (n : Nat) (hn : n < 4294967296) (w : World) :
    Calls Tryd.prog 20 #[.int .u32 (n : Int), .int .u32 10] w fun e w' => e = .returned (.string ⟨(digs 10 n).toArray⟩) ∧ Below w.heap.size w w' := by
  have HN := Lib.hid hn
  obtain ⟨nz, hnz⟩ : ∃ nz : Int, nz = (n : Int) := ⟨_, rfl⟩
  have hnz0 : 0 ≤ nz ∧ nz < 4294967296 := by omega
  have HNZ := Lib.hid hnz
  rw [← hnz]
  clear hnz hn
  go_enter Tryd.func20, Tryd.ntmps20
  go_wp2
  go_loopw [0, 5] (fun m s wr => ∃ (k : Nat) (z : Int) (t : ByteArray), m = .int .u32 z ∧ 0 ≤ z ∧ z < 4294967296 ∧ s = .string t ∧ t.size ≤ 100 ∧ Hid (z = (k : Int)) ∧ Hid (t.size + (digs 10 k).length ≤ 12) ∧ Hid (digs 10 n = (digs 10 k) ++ t.data.toList) ∧ Hid (Below w.heap.size w wr)) (fun m _ _ => (intOf m).toNat)
  case atStart => exact ⟨n, nz, ⟨#[]⟩, rfl, hnz0.1, hnz0.2, rfl, by decide, HNZ, Lib.hid (by have := digs_size32 10 n (by decide) HN.out; show 0 + _ ≤ 12; omega), Lib.hid (by simp), Lib.hid (Below.refl _ _)⟩
  case round =>
    obtain ⟨k, z, t, rfl, hz0, hz1, rfl, ht, HZ, HS, HD, HB⟩ := hrel
    obtain ⟨w1, hw1⟩ : ∃ w1 : World, w1 = wr := ⟨_, rfl⟩
    subst hw1
    obtain ⟨x, hx⟩ : ∃ x, x = hlB (k % 10) := ⟨_, rfl⟩
    obtain ⟨q, hqe⟩ : ∃ q : Nat, q = k % 10 := ⟨_, rfl⟩
    have hqz : z % 10 = (q : Int) := by rw [hqe]; have := HZ.out; omega
    have kq := fun W => run_lowdig (P := Tryd.prog) (t := 9) Tryd.underlying9 (show q < 16 by omega) .u32 W
    rw [hqe, ← hx, ← hqe] at kq
    unfold hlS at kq
    have hm : Int.tmod z 10 = z % 10 := Int.tmod_eq_emod_of_nonneg hz0
    have hd : Int.tdiv z 10 = z / 10 := Int.tdiv_eq_ediv_of_nonneg hz0
    have hx0 := byte_bd x
    have kc := conv_one x w1 (w1.alloc (.cells #[.int .u8 x.toNat] 5)) (Below.refl _ _)
    have HB4 := Lib.hid (below_more HB.out (.cells #[.int .u8 x.toNat] 5))
    obtain ⟨xz, hxz⟩ : ∃ xz : Int, xz = (x.toNat : Int) := ⟨_, rfl⟩
    rw [← hxz] at hx0 kc HB4 kq
    have hts : ¬ 9223372036854775807 < 1 + t.size := by omega
    have HST := Lib.hid (digs_step (b := 10) (n := k) (by decide))
    rw [← hx] at HST
    clear hx hxz hqe
    by_cases hq : z / 10 = 0
    · have hqb : (z / 10 == 0) = true := beq_iff_eq.2 hq
      have HE : Hid ((⟨(digs 10 n).toArray⟩ : ByteArray) = (⟨#[x]⟩ : ByteArray) ++ t) := Lib.hid (by
        refine (mk_list _ ?_).symm
        rw [app_mk, HD.out, HST.out, if_pos (by have := HZ.out; omega)]
        rfl)
      go_wp2
      go_ret
      exact ⟨ret_str HE.out.symm, HB4.out⟩
    · have hqb : (z / 10 == 0) = false := beq_eq_false_iff_ne.2 hq
      have hkq : ¬ k / 10 = 0 := by have := HZ.out; omega
      have HST2 := HST.out
      rw [if_neg hkq] at HST2
      have HST3 := Lib.hid HST2
      clear HST2
      go_wp2
      go_roundw
      case rel => exact ⟨k / 10, z / 10, _, rfl, by omega, by omega, rfl, lsz_one (b := (digs 10 (k / 10)).length) HS.out (by rw [HST3.out, List.length_append]; rfl), Lib.hid (by have := HZ.out; omega), Lib.hid (lsz (b := (digs 10 (k / 10)).length) HS.out (by rw [HST3.out, List.length_append]; rfl)), Lib.hid (by rw [HD.out, HST3.out, app_mk]; simp), HB4⟩
      case measure => simp [intOf]; omega

theorem bdig16_any (n : Nat) (hn : n < 4294967296) (w : World) :
    Calls Tryd.prog 20 #[.int .u32 (n : Int), .int .u32 16] w fun e w' => e = .returned (.string ⟨(digs 16 n).toArray⟩) ∧ Below w.heap.size w w' := by
  have HN := Lib.hid hn
  obtain ⟨nz, hnz⟩ : ∃ nz : Int, nz = (n : Int) := ⟨_, rfl⟩
  have hnz0 : 0 ≤ nz ∧ nz < 4294967296 := by omega
  have HNZ := Lib.hid hnz
  rw [← hnz]
  clear hnz hn
  go_enter Tryd.func20, Tryd.ntmps20
  go_wp2
  go_loopw [0, 5] (fun m s wr => ∃ (k : Nat) (z : Int) (t : ByteArray), m = .int .u32 z ∧ 0 ≤ z ∧ z < 4294967296 ∧ s = .string t ∧ t.size ≤ 100 ∧ Hid (z = (k : Int)) ∧ Hid (t.size + (digs 16 k).length ≤ 12) ∧ Hid (digs 16 n = (digs 16 k) ++ t.data.toList) ∧ Hid (Below w.heap.size w wr)) (fun m _ _ => (intOf m).toNat)
  case atStart => exact ⟨n, nz, ⟨#[]⟩, rfl, hnz0.1, hnz0.2, rfl, by decide, HNZ, Lib.hid (by have := digs_size32 16 n (by decide) HN.out; show 0 + _ ≤ 12; omega), Lib.hid (by simp), Lib.hid (Below.refl _ _)⟩
  case round =>
    obtain ⟨k, z, t, rfl, hz0, hz1, rfl, ht, HZ, HS, HD, HB⟩ := hrel
    obtain ⟨w1, hw1⟩ : ∃ w1 : World, w1 = wr := ⟨_, rfl⟩
    subst hw1
    obtain ⟨x, hx⟩ : ∃ x, x = hlB (k % 16) := ⟨_, rfl⟩
    obtain ⟨q, hqe⟩ : ∃ q : Nat, q = k % 16 := ⟨_, rfl⟩
    have hqz : z % 16 = (q : Int) := by rw [hqe]; have := HZ.out; omega
    have kq := fun W => run_lowdig (P := Tryd.prog) (t := 9) Tryd.underlying9 (show q < 16 by omega) .u32 W
    rw [hqe, ← hx, ← hqe] at kq
    unfold hlS at kq
    have hm : Int.tmod z 16 = z % 16 := Int.tmod_eq_emod_of_nonneg hz0
    have hd : Int.tdiv z 16 = z / 16 := Int.tdiv_eq_ediv_of_nonneg hz0
    have hx0 := byte_bd x
    have kc := conv_one x w1 (w1.alloc (.cells #[.int .u8 x.toNat] 5)) (Below.refl _ _)
    have HB4 := Lib.hid (below_more HB.out (.cells #[.int .u8 x.toNat] 5))
    obtain ⟨xz, hxz⟩ : ∃ xz : Int, xz = (x.toNat : Int) := ⟨_, rfl⟩
    rw [← hxz] at hx0 kc HB4 kq
    have hts : ¬ 9223372036854775807 < 1 + t.size := by omega
    have HST := Lib.hid (digs_step (b := 16) (n := k) (by decide))
    rw [← hx] at HST
    clear hx hxz hqe
    by_cases hq : z / 16 = 0
    · have hqb : (z / 16 == 0) = true := beq_iff_eq.2 hq
      have HE : Hid ((⟨(digs 16 n).toArray⟩ : ByteArray) = (⟨#[x]⟩ : ByteArray) ++ t) := Lib.hid (by
        refine (mk_list _ ?_).symm
        rw [app_mk, HD.out, HST.out, if_pos (by have := HZ.out; omega)]
        rfl)
      go_wp2
      go_ret
      exact ⟨ret_str HE.out.symm, HB4.out⟩
    · have hqb : (z / 16 == 0) = false := beq_eq_false_iff_ne.2 hq
      have hkq : ¬ k / 16 = 0 := by have := HZ.out; omega
      have HST2 := HST.out
      rw [if_neg hkq] at HST2
      have HST3 := Lib.hid HST2
      clear HST2
      go_wp2
      go_roundw
      case rel => exact ⟨k / 16, z / 16, _, rfl, by omega, by omega, rfl, lsz_one (b := (digs 16 (k / 16)).length) HS.out (by rw [HST3.out, List.length_append]; rfl), Lib.hid (by have := HZ.out; omega), Lib.hid (lsz (b := (digs 16 (k / 16)).length) HS.out (by rw [HST3.out, List.length_append]; rfl)), Lib.hid (by rw [HD.out, HST3.out, app_mk]; simp), HB4⟩
      case measure => simp [intOf]; omega

/-- What a number is written as: it is that number, of plain bytes. -/
def WrP (n : Nat) (p : List UInt8) : Prop := numP p = some n ∧ p.length ≤ 14 ∧ (∀ c ∈ p, forbB (lowB c) = false ∧ c ≠ 46 ∧ c ≠ 37) ∧ numericP (lowL p) = true ∧ p ≠ []

theorem wr_byte {b : Nat} (hb : b ≤ 16) {c : UInt8} (h : isD b c = true) : forbB (lowB c) = false ∧ c ≠ 46 ∧ c ≠ 37 := by
  have h2 : isD 16 c = true := by
    unfold isD at h ⊢
    simp only [Bool.and_eq_true, decide_eq_true_eq] at h ⊢
    omega
  exact byte_all (p := fun c => isD 16 c = true → forbB (lowB c) = false ∧ c ≠ 46 ∧ c ≠ 37) (by decide +kernel) c h2

theorem allD_up {b : Nat} (hb : b ≤ 10) {l : List UInt8} (h : allD b l = true) : allD 10 l = true := by
  unfold allD at h ⊢
  rw [List.all_eq_true] at h ⊢
  intro c hc
  have := h c hc
  unfold isD at this ⊢
  simp only [Bool.and_eq_true, decide_eq_true_eq] at this ⊢
  omega

theorem wr_dec (n : Nat) (h : n < 4294967296) : WrP n (digs 10 n) := by
  obtain ⟨_, h2, _, h4, _⟩ := digs_facts 10 (by omega) n
  have hs := digs_size32 10 n (by decide) h
  refine ⟨num_dec n, by omega, fun c hc => wr_byte (b := 10) (by decide) (allD_mem h2 hc), ?_, h4⟩
  unfold numericP
  rw [allD_low, show allD 10 (digs 10 n) = true from h2, decide_eq_true (by simpa [lowL] using h4)]
  rfl

theorem wr_oct (n : Nat) (h : n < 4294967296) : WrP n (48 :: digs 8 n) := by
  obtain ⟨_, h2, _, h4, _⟩ := digs_facts 8 (by omega) n
  have hs := digs_size32 8 n (by decide) h
  have h3 : allD 8 (48 :: digs 8 n) = true := by
    have h5 : allD 8 (digs 8 n) = true := h2
    unfold allD at h5 ⊢
    rw [List.all_cons, h5]
    decide
  refine ⟨num_oct n, by rw [List.length_cons]; omega, fun c hc => wr_byte (b := 8) (by decide) (allD_mem h3 hc), ?_, by simp⟩
  unfold numericP
  rw [allD_low, allD_up (b := 8) (by decide) h3, decide_eq_true (by simp [lowL])]
  rfl

theorem wr_hex (n : Nat) (h : n < 4294967296) : WrP n (48 :: 88 :: digs 16 n) := by
  obtain ⟨_, h2, _, h4, _⟩ := digs_facts 16 (by omega) n
  have hs := digs_size32 16 n (by decide) h
  refine ⟨num_hex n, by rw [List.length_cons, List.length_cons]; omega, fun c hc => ?_, ?_, by simp⟩
  · rcases List.mem_cons.1 hc with rfl | hc
    · decide
    · rcases List.mem_cons.1 hc with rfl | hc
      · decide
      · exact wr_byte (b := 16) (by decide) (allD_mem h2 hc)
  · unfold numericP
    have hx : xpre (48 :: 88 :: digs 16 n) = true := by
      unfold xpre
      rw [List.length_cons, List.length_cons, decide_eq_true (by omega)]
      rfl
    have h6 : allD 16 ((48 :: 88 :: digs 16 n).drop 2) = true := h2
    rw [xpre_low, hx, low_drop, allD_low 16 ((48 :: 88 :: digs 16 n).drop 2), h6]
    simp

theorem bwrite_any (n : Nat) (hn : n < 4294967296) (k : Int) (hk : -9223372036854775808 ≤ k ∧ k ≤ 9223372036854775807) (g1 g2 : Nat) (w : World) (h1 : w.cell? ⟨g1, 0, none⟩ = some (.int .i64 k))
    (h2 : w.cell? ⟨g2, 0, none⟩ = some (.func (.func 20) #[] #[])) :
    Calls Tryd.prog 21 #[.int .u32 (n : Int), .pointer (some ⟨g1, 0, none⟩), .pointer (some ⟨g2, 0, none⟩)] w fun e w' => (∃ y : ByteArray, WrP n y.data.toList ∧ y.size ≤ 14 ∧ e = .returned (.string y)) ∧ Below w.heap.size w w' := by
  have henter : Enters Tryd.prog 20 := enters_of Tryd.func20 (by kernel_rfl) rfl
  have D8 := Lib.hid (fun W => bdig8_any n hn W)
  have D10 := Lib.hid (fun W => bdig10_any n hn W)
  have D16 := Lib.hid (fun W => bdig16_any n hn W)
  have W8 := Lib.hid (wr_oct n hn)
  have W10 := Lib.hid (wr_dec n hn)
  have W16 := Lib.hid (wr_hex n hn)
  obtain ⟨z, hz⟩ : ∃ z : Int, z = (n : Int) := ⟨_, rfl⟩
  rw [← hz] at D8 D10 D16 ⊢
  have hz0 : 0 ≤ z ∧ z < 4294967296 := by omega
  obtain ⟨y8, hy8⟩ : ∃ y : ByteArray, y = ⟨(digs 8 n).toArray⟩ := ⟨_, rfl⟩
  obtain ⟨y16, hy16⟩ : ∃ y : ByteArray, y = ⟨(digs 16 n).toArray⟩ := ⟨_, rfl⟩
  rw [← hy8] at D8
  rw [← hy16] at D16
  have hs8 : y8.size ≤ 12 := by rw [hy8, mk_size]; exact digs_size32 8 n (by decide) hn
  have hs16 : y16.size ≤ 12 := by rw [hy16, mk_size]; exact digs_size32 16 n (by decide) hn
  have c8 : ¬ 9223372036854775807 < 1 + y8.size := by omega
  have c16 : ¬ 9223372036854775807 < 2 + y16.size := by omega
  have E8 : Hid ((⟨#[48]⟩ : ByteArray) ++ y8 = ⟨(48 :: digs 8 n).toArray⟩) := Lib.hid (mk_list _ (by rw [app_mk, hy8]))
  have E16 : Hid ((⟨#[48, 88]⟩ : ByteArray) ++ y16 = ⟨(48 :: 88 :: digs 16 n).toArray⟩) := Lib.hid (mk_list _ (by rw [mk_app, hy16]; rfl))
  clear hz hy8 hy16 hn
  go_enter Tryd.func21, Tryd.ntmps21
  go_wp2_with fail
  refine (round_any k 3 _ hk (by decide)).mono ?_
  rintro e w2 ⟨⟨r, hr, rfl⟩, hw2⟩
  cases hw2
  rcases (by omega : r = 0 ∨ r = 1 ∨ r = 2) with h | h | h
  · have r0 : ((r : Int) == 0) = true := beq_iff_eq.2 (by omega)
    have r00 : (r : Int) = 0 := by omega
    clear h hr
    go_wp2_with (first | (refine wpList_callv rfl (.tmp 9) _ _ rfl 20 #[] rfl #[.int .u32 z, .int .u32 10] (by simp [go_sem]) henter (D10.out _) ?_; rintro e w3 ⟨rfl, hb3⟩; refine ⟨_, rfl, ?_⟩) | fail)
    go_ret
    exact ⟨⟨⟨(digs 10 n).toArray⟩, W10.out, W10.out.2.1, rfl⟩, hb3⟩
  · have r0 : ((r : Int) == 0) = false := beq_eq_false_iff_ne.2 (by omega)
    have r1 : ((r : Int) == 1) = true := beq_iff_eq.2 (by omega)
    have r00 : (r : Int) = 1 := by omega
    clear h hr
    go_wp2_with (first | (refine wpList_callv rfl (.tmp 14) _ _ rfl 20 #[] rfl #[.int .u32 z, .int .u32 8] (by simp [go_sem]) henter (D8.out _) ?_; rintro e w3 ⟨rfl, hb3⟩; refine ⟨_, rfl, ?_⟩) | fail)
    go_ret
    exact ⟨⟨⟨(48 :: digs 8 n).toArray⟩, W8.out, W8.out.2.1, by rw [← E8.out]; rfl⟩, hb3⟩
  · have r0 : ((r : Int) == 0) = false := beq_eq_false_iff_ne.2 (by omega)
    have r1 : ((r : Int) == 1) = false := beq_eq_false_iff_ne.2 (by omega)
    have r00 : ¬ (r : Int) = 0 := by omega
    have r01 : ¬ (r : Int) = 1 := by omega
    clear h hr
    go_wp2_with (first | (refine wpList_callv rfl (.tmp 18) _ _ rfl 20 #[] rfl #[.int .u32 z, .int .u32 16] (by simp [go_sem]) henter (D16.out _) ?_; rintro e w3 ⟨rfl, hb3⟩; refine ⟨_, rfl, ?_⟩) | fail)
    go_ret
    exact ⟨⟨⟨(48 :: 88 :: digs 16 n).toArray⟩, W16.out, W16.out.2.1, by rw [← E16.out]; rfl⟩, hb3⟩

end Go.Proofs.YtmfchplplpiogaaDoor
