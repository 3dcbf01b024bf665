/- Contract: parapetlaw11's decimal. -/
import Derived.Test.YtlhdafinfgdlkaaGreatDoorProg
import Derived.Test.YtlhdafinfgdlkaaGreatDoorKit
import Derived.Test.YtlhdafinfgdlkaaGreatDoorPlain
import Derived.Test.YtlhdafinfgdlkaaGreatDoorAsc8
import Derived.Test.YtlhdafinfgdlkaaGreatDoorRow
import Derived.Test.YtlhdafinfgdlkaaGreatDoorHst1
import Derived.Test.YtlhdafinfgdlkaaGreatDoorUrl0
import Derived.Test.YtlhdafinfgdlkaaGreatDoorUrl6
import Derived.Test.YtlhdafinfgdlkaaGreatDoorUrl9
import Derived.Test.YtlhdafinfgdlkaaGreatDoorUrl12
import Derived.Test.YtlhdafinfgdlkaaGreatDoorUrl15
namespace Go.Proofs.YtlhdafinfgdlkaaGreatDoor
open Go.RowKit Go.Proofs
set_option maxRecDepth 100000

theorem uconv_one (c : UInt8) (W W' : World) (hb : Below (W.alloc (.cells #[.int .u8 c.toNat] 5)).heap.size (W.alloc (.cells #[.int .u8 c.toNat] 5)) W') :
    (convert 37 9 (.slice (some ⟨W.heap.size, 0, none⟩) 1 1)).run Tryz.prog W' = .ok (.string ⟨#[c]⟩) W' := by
  rw [run_convert_bytes_arg (P := Tryz.prog) (w := W') 37 5 Tryz.underlying37 Tryz.underlying5 W.heap.size 0 1 1 [(c.toNat : Int)] rfl (fun i hi => ?_) 9 Tryz.underlying9]
  · congr 2
    simp [strOfNums]
  · have h0 : (W.alloc (.cells #[.int .u8 c.toNat] 5)).cell? ⟨W.heap.size, 0 + i, none⟩ = some (.int .u8 ([(c.toNat : Int)].getD i 0)) := by
      rw [cell_of_row _ _ _ _ 5 (0, 0) (heap_alloc_new W _)]
      match i, hi with
      | 0, _ => rfl
    exact (hb.cell (p := ⟨W.heap.size, 0 + i, none⟩) (block_of_cell h0)).trans h0

theorem itoa_more {q : Int} (h : 10 ≤ q) : Lib.itoa q = Lib.itoa (q / 10) ++ [ddB q] := by
  rw [itoa_pos (by omega), itoa_pos (by omega), ddI_step (by omega)]

theorem itoa_last {q : Int} (h : 0 ≤ q ∧ q < 10) : Lib.itoa q = [ddB q] := by
  by_cases h0 : q = 0
  · subst h0
    unfold Lib.itoa ddB
    rw [if_neg (by decide)]
    unfold Lib.decDigits
    rfl
  · rw [itoa_pos (by omega), ddI_step (by omega), ddI_zero (by omega)]
    rfl

theorem ddB_num {q : Int} (h : 0 ≤ q) : ((ddB q).toNat : Int) = 48 + q % 10 := by
  unfold ddB
  rw [UInt8.toNat_ofNat', Nat.mod_eq_of_lt (by omega)]
  omega

theorem uconv_cat (c : UInt8) (l : List UInt8) : (⟨#[c]⟩ : ByteArray) ++ ⟨l.toArray⟩ = ⟨(c :: l).toArray⟩ := by
  exact ByteArray.ext (by simp [ByteArray.data_append])

theorem udecimal_any (m : Int) (hm : 0 ≤ m ∧ m ≤ 70000) (w : World) :
    Calls Tryz.prog 22 #[.int .i64 m] w fun e w' => e = .returned (.string ⟨(Lib.itoa m).toArray⟩) ∧ Below w.heap.size w w' := by
  have hml := Lib.itoa_length_le m (by omega) (by omega)
  go_enter Tryz.func22, Tryz.ntmps22
  go_wp2
  go_loopw [0, 3] (fun n t wr => ∃ (q : Int) (l : List UInt8) (L : ByteArray), n = .int .i64 q ∧ t = .string L ∧ 0 ≤ q ∧ q ≤ 70000 ∧ L.size ≤ 30 ∧ Hid (L = ⟨l.toArray⟩) ∧ Hid (Lib.itoa m = Lib.itoa q ++ l) ∧ Below w.heap.size w wr) (fun n _ _ => (intOf n).toNat)
  case atStart => exact ⟨m, [], ⟨#[]⟩, rfl, rfl, by omega, by omega, by decide, Lib.hid rfl, Lib.hid (by rw [List.append_nil]), Below.refl _ _⟩
  case round =>
    obtain ⟨q, l, L, rfl, rfl, hq0, hq1, hL, HL, HD, hb⟩ := hrel
    have HB := Lib.hid hb
    clear hb
    obtain ⟨x, hx⟩ : ∃ x, x = ddB q := ⟨_, rfl⟩
    have hn := ddB_num hq0
    rw [← hx] at hn
    have hxb := byte_bd x
    have kc := uconv_one x wr (wr.alloc (.cells #[.int .u8 x.toNat] 5)) (Below.refl _ _)
    have HB2 := Lib.hid (below_more HB.out (.cells #[.int .u8 x.toNat] 5))
    have hn2 : 48 + q % 10 = (x.toNat : Int) := hn.symm
    have hq2 : 0 ≤ q % 10 ∧ q % 10 ≤ 9 := by omega
    have HC : Hid ((⟨#[x]⟩ : ByteArray) ++ L = ⟨(x :: l).toArray⟩) := Lib.hid (by rw [HL.out, uconv_cat])
    have hqn : 1 ≤ (Lib.itoa q).length := by
      by_cases h : 10 ≤ q
      · rw [itoa_more h, List.length_append]; simp
      · rw [itoa_last ⟨hq0, by omega⟩]; simp
    have hsz : ((⟨#[x]⟩ : ByteArray) ++ L).size ≤ 30 := by
      have := congrArg List.length HD.out
      rw [List.length_append] at this
      rw [HC.out, mk_size, List.length_cons]
      omega
    clear hqn
    by_cases h10 : 10 ≤ q
    · have hd : 1 ≤ q / 10 ∧ q / 10 < q := by omega
      have HI := Lib.hid (itoa_more h10)
      have HX := Lib.hid hx
      clear hx hn
      go_wp2_with fail
      go_roundw
      case rel => exact ⟨q / 10, x :: l, _, rfl, rfl, by omega, by omega, hsz, HC, Lib.hid (by rw [HD.out, HI.out, HX.out]; simp), HB2.out⟩
      case measure => simp [intOf]; omega
    · have hd : q / 10 = 0 := by omega
      have HI := Lib.hid (itoa_last (q := q) ⟨hq0, by omega⟩)
      have HF : Hid ((⟨#[x]⟩ : ByteArray) ++ L = ⟨(Lib.itoa m).toArray⟩) := Lib.hid (by rw [HC.out, HD.out, HI.out, hx]; rfl)
      clear hx hn
      go_wp2_with fail
      go_ret
      exact ⟨by rw [HF.out]; rfl, HB2.out⟩

theorem part_small (x : ByteArray) (h : x.data.toList.length ≤ 100) : x.size ≤ 100 := by rw [← size_data]; exact h

theorem below_put1 {w W : World} {g : Nat} (hb : Below w.heap.size w W) (hg : w.heap.size ≤ g) (j : Nat) (u : Value) : Below w.heap.size w (W.setCell ⟨g, j, none⟩ u) := below_setCells hg [u] j W hb

set_option maxHeartbeats 2000000 in
theorem uparts_0000a (w : World) (hE : Env11 w) :
    Calls Tryz.prog 8 #[.int .i64 80, .bool false, .bool false, .bool false, .bool false] w fun e w' => e = .returned (.bool true) ∧ Below w.heap.size w w' := by
  have HE := Lib.hid hE
  have HAW := Lib.hid (fun W (hW : Env11 W) => uawake_any W hW)
  have HDC := Lib.hid (fun W => udecimal_any 80 (by omega) W)
  have hml := Lib.itoa_length_le 80 (by omega) (by omega)
  obtain ⟨I, hI⟩ : ∃ I : ByteArray, I = ⟨(Lib.itoa 80).toArray⟩ := ⟨_, rfl⟩
  have hIs : I.size ≤ 21 := by rw [hI, mk_size]; omega
  have hIl : I.data.toList = Lib.itoa 80 := by rw [hI]
  rw [← hI] at HDC
  have s0 := part_small ((⟨#[104, 116, 116, 112]⟩ : ByteArray) ++ (⟨#[58, 47, 47]⟩ : ByteArray)) (by simp <;> omega)
  have s1 := part_small (((⟨#[104, 116, 116, 112]⟩ : ByteArray) ++ (⟨#[58, 47, 47]⟩ : ByteArray)) ++ (⟨#[104, 46, 120, 58, 48, 48]⟩ : ByteArray)) (by simp <;> omega)
  have s2 := part_small ((((⟨#[104, 116, 116, 112]⟩ : ByteArray) ++ (⟨#[58, 47, 47]⟩ : ByteArray)) ++ (⟨#[104, 46, 120, 58, 48, 48]⟩ : ByteArray)) ++ I) (by simp [hIl] <;> omega)
  have s3 := part_small (((((⟨#[104, 116, 116, 112]⟩ : ByteArray) ++ (⟨#[58, 47, 47]⟩ : ByteArray)) ++ (⟨#[104, 46, 120, 58, 48, 48]⟩ : ByteArray)) ++ I) ++ (⟨#[47, 97]⟩ : ByteArray)) (by simp [hIl] <;> omega)
  have HX : Hid ((((((⟨#[104, 116, 116, 112]⟩ : ByteArray) ++ (⟨#[58, 47, 47]⟩ : ByteArray)) ++ (⟨#[104, 46, 120, 58, 48, 48]⟩ : ByteArray)) ++ I) ++ (⟨#[47, 97]⟩ : ByteArray)).data.toList = partsT false false false false 80) := Lib.hid (by simp [hIl, partsT, httpL])
  have HU : Hid (partsU false false false false 80 = ⟨[104, 116, 116, 112], [], [], [104, 46, 120], (-1), [47, 97], false, [], false, []⟩) := Lib.hid (by simp [partsU, httpL])
  have HP : Hid (∀ W, Env11 W → Calls Tryz.prog 10 #[.string (((((⟨#[104, 116, 116, 112]⟩ : ByteArray) ++ (⟨#[58, 47, 47]⟩ : ByteArray)) ++ (⟨#[104, 46, 120, 58, 48, 48]⟩ : ByteArray)) ++ I) ++ (⟨#[47, 97]⟩ : ByteArray))] W fun e w' => e = .returned (.tuple #[.agg #[.string ⟨#[104, 116, 116, 112]⟩, .string ⟨#[]⟩, .string ⟨#[]⟩, .string ⟨#[104, 46, 120]⟩, .int .i64 (-1), .string ⟨#[47, 97]⟩, .bool false, .string ⟨#[]⟩, .bool false, .string ⟨#[]⟩], .int .i64 0]) ∧ Below W.heap.size W w') := Lib.hid (by
    intro W hW
    have := uparse_any (((((⟨#[104, 116, 116, 112]⟩ : ByteArray) ++ (⟨#[58, 47, 47]⟩ : ByteArray)) ++ (⟨#[104, 46, 120, 58, 48, 48]⟩ : ByteArray)) ++ I) ++ (⟨#[47, 97]⟩ : ByteArray)) (by omega) W hW
    rw [HX.out, parts_url false false false false 80 (by omega), if_pos (by omega), HU.out] at this
    exact this)
  have HPT : Hid (∀ W, Calls Tryz.prog 17 #[.agg #[.string ⟨#[104, 116, 116, 112]⟩, .string ⟨#[]⟩, .string ⟨#[]⟩, .string ⟨#[104, 46, 120]⟩, .int .i64 (-1), .string ⟨#[47, 97]⟩, .bool false, .string ⟨#[]⟩, .bool false, .string ⟨#[]⟩]] W fun e w' => e = .returned (.int .i64 80) ∧ Below W.heap.size W w') := Lib.hid (by
    intro W
    have := uPortU_any ⟨#[104, 116, 116, 112]⟩ ⟨#[]⟩ ⟨#[]⟩ ⟨#[104, 46, 120]⟩ ⟨#[47, 97]⟩ ⟨#[]⟩ ⟨#[]⟩ (-1) false false W
    exact this)
  clear hI hIl hml hE
  go_enter Tryz.func8, Tryz.ntmps8
  go_wp2_with fail
  refine (HDC.out _).mono ?_
  rintro e w1 ⟨rfl, hb1⟩
  have HB1 := Lib.hid hb1
  clear hb1
  go_wp2_with fail
  refine (HP.out _ (env_below HE.out HB1.out)).mono ?_
  rintro e w2 ⟨rfl, hb2⟩
  have HB4 := Lib.hid (below_more (below_more (below_then HB1.out hb2) (.cells #[.string ⟨#[104, 116, 116, 112]⟩, .string ⟨#[]⟩, .string ⟨#[]⟩, .string ⟨#[104, 46, 120]⟩, .int .i64 (-1), .string ⟨#[47, 97]⟩, .bool false, .string ⟨#[]⟩, .bool false, .string ⟨#[]⟩] 24)) (.cells #[.string ⟨#[104, 116, 116, 112]⟩, .string ⟨#[]⟩, .string ⟨#[]⟩, .string ⟨#[104, 46, 120]⟩, .int .i64 (-1), .string ⟨#[47, 97]⟩, .bool false, .string ⟨#[]⟩, .bool false, .string ⟨#[]⟩] 24))
  have HS4 := Lib.hid (Rw.more (Rw.alloc (base := 0) w2 24 #[.string ⟨#[104, 116, 116, 112]⟩, .string ⟨#[]⟩, .string ⟨#[]⟩, .string ⟨#[104, 46, 120]⟩, .int .i64 (-1), .string ⟨#[47, 97]⟩, .bool false, .string ⟨#[]⟩, .bool false, .string ⟨#[]⟩] (Nat.zero_le _)) (.cells #[.string ⟨#[104, 116, 116, 112]⟩, .string ⟨#[]⟩, .string ⟨#[]⟩, .string ⟨#[104, 46, 120]⟩, .int .i64 (-1), .string ⟨#[47, 97]⟩, .bool false, .string ⟨#[]⟩, .bool false, .string ⟨#[]⟩] 24))
  have HR4 := Lib.hid (Rw.alloc (base := 0) (w2.alloc (.cells #[.string ⟨#[104, 116, 116, 112]⟩, .string ⟨#[]⟩, .string ⟨#[]⟩, .string ⟨#[104, 46, 120]⟩, .int .i64 (-1), .string ⟨#[47, 97]⟩, .bool false, .string ⟨#[]⟩, .bool false, .string ⟨#[]⟩] 24)) 24 #[.string ⟨#[104, 116, 116, 112]⟩, .string ⟨#[]⟩, .string ⟨#[]⟩, .string ⟨#[104, 46, 120]⟩, .int .i64 (-1), .string ⟨#[47, 97]⟩, .bool false, .string ⟨#[]⟩, .bool false, .string ⟨#[]⟩] (Nat.zero_le _))
  clear hb2
  have ka0 := Rw.cell HS4.out (j := 0) rfl
  have kb0 := Rw.cell HR4.out (j := 0) rfl
  have ka1 := Rw.cell HS4.out (j := 1) rfl
  have kb1 := Rw.cell HR4.out (j := 1) rfl
  have ka2 := Rw.cell HS4.out (j := 2) rfl
  have kb2 := Rw.cell HR4.out (j := 2) rfl
  have ka3 := Rw.cell HS4.out (j := 3) rfl
  have kb3 := Rw.cell HR4.out (j := 3) rfl
  have ka4 := Rw.cell HS4.out (j := 4) rfl
  have kb4 := Rw.cell HR4.out (j := 4) rfl
  have ka5 := Rw.cell HS4.out (j := 5) rfl
  have kb5 := Rw.cell HR4.out (j := 5) rfl
  have ka6 := Rw.cell HS4.out (j := 6) rfl
  have kb6 := Rw.cell HR4.out (j := 6) rfl
  have ka7 := Rw.cell HS4.out (j := 7) rfl
  have kb7 := Rw.cell HR4.out (j := 7) rfl
  have ka8 := Rw.cell HS4.out (j := 8) rfl
  have kb8 := Rw.cell HR4.out (j := 8) rfl
  have ka9 := Rw.cell HS4.out (j := 9) rfl
  have kb9 := Rw.cell HR4.out (j := 9) rfl
  go_wp2_with fail
  refine (HPT.out _).mono ?_
  rintro e z1 ⟨rfl, hc1⟩
  have HC1 := Lib.hid (below_then HB4.out hc1)
  clear hc1
  go_wp2_with fail
  refine (HAW.out _ (env_below HE.out HC1.out)).mono ?_
  rintro e z2 ⟨rfl, hc2⟩
  have HC2 := Lib.hid (below_then HC1.out hc2)
  clear hc2
  go_wp2_with fail
  go_ret
  exact ⟨rfl, HC2.out⟩

set_option maxHeartbeats 2000000 in
theorem uparts_0000b (p : Int) (hp : 0 ≤ p ∧ p ≤ 65535) (hd : ¬ p = 80) (w : World) (hE : Env11 w) :
    Calls Tryz.prog 8 #[.int .i64 p, .bool false, .bool false, .bool false, .bool false] w fun e w' => e = .returned (.bool true) ∧ Below w.heap.size w w' := by
  have HE := Lib.hid hE
  have HAW := Lib.hid (fun W (hW : Env11 W) => uawake_any W hW)
  have HDC := Lib.hid (fun W => udecimal_any p (by omega) W)
  have hml := Lib.itoa_length_le p (by omega) (by omega)
  obtain ⟨I, hI⟩ : ∃ I : ByteArray, I = ⟨(Lib.itoa p).toArray⟩ := ⟨_, rfl⟩
  have hIs : I.size ≤ 21 := by rw [hI, mk_size]; omega
  have hIl : I.data.toList = Lib.itoa p := by rw [hI]
  rw [← hI] at HDC
  have s0 := part_small ((⟨#[104, 116, 116, 112]⟩ : ByteArray) ++ (⟨#[58, 47, 47]⟩ : ByteArray)) (by simp <;> omega)
  have s1 := part_small (((⟨#[104, 116, 116, 112]⟩ : ByteArray) ++ (⟨#[58, 47, 47]⟩ : ByteArray)) ++ (⟨#[104, 46, 120, 58, 48, 48]⟩ : ByteArray)) (by simp <;> omega)
  have s2 := part_small ((((⟨#[104, 116, 116, 112]⟩ : ByteArray) ++ (⟨#[58, 47, 47]⟩ : ByteArray)) ++ (⟨#[104, 46, 120, 58, 48, 48]⟩ : ByteArray)) ++ I) (by simp [hIl] <;> omega)
  have s3 := part_small (((((⟨#[104, 116, 116, 112]⟩ : ByteArray) ++ (⟨#[58, 47, 47]⟩ : ByteArray)) ++ (⟨#[104, 46, 120, 58, 48, 48]⟩ : ByteArray)) ++ I) ++ (⟨#[47, 97]⟩ : ByteArray)) (by simp [hIl] <;> omega)
  have HX : Hid ((((((⟨#[104, 116, 116, 112]⟩ : ByteArray) ++ (⟨#[58, 47, 47]⟩ : ByteArray)) ++ (⟨#[104, 46, 120, 58, 48, 48]⟩ : ByteArray)) ++ I) ++ (⟨#[47, 97]⟩ : ByteArray)).data.toList = partsT false false false false p) := Lib.hid (by simp [hIl, partsT, httpL])
  have HU : Hid (partsU false false false false p = ⟨[104, 116, 116, 112], [], [], [104, 46, 120], p, [47, 97], false, [], false, []⟩) := Lib.hid (by simp [partsU, httpL, hd])
  have HP : Hid (∀ W, Env11 W → Calls Tryz.prog 10 #[.string (((((⟨#[104, 116, 116, 112]⟩ : ByteArray) ++ (⟨#[58, 47, 47]⟩ : ByteArray)) ++ (⟨#[104, 46, 120, 58, 48, 48]⟩ : ByteArray)) ++ I) ++ (⟨#[47, 97]⟩ : ByteArray))] W fun e w' => e = .returned (.tuple #[.agg #[.string ⟨#[104, 116, 116, 112]⟩, .string ⟨#[]⟩, .string ⟨#[]⟩, .string ⟨#[104, 46, 120]⟩, .int .i64 p, .string ⟨#[47, 97]⟩, .bool false, .string ⟨#[]⟩, .bool false, .string ⟨#[]⟩], .int .i64 0]) ∧ Below W.heap.size W w') := Lib.hid (by
    intro W hW
    have := uparse_any (((((⟨#[104, 116, 116, 112]⟩ : ByteArray) ++ (⟨#[58, 47, 47]⟩ : ByteArray)) ++ (⟨#[104, 46, 120, 58, 48, 48]⟩ : ByteArray)) ++ I) ++ (⟨#[47, 97]⟩ : ByteArray)) (by omega) W hW
    rw [HX.out, parts_url false false false false p (by omega), if_pos (by omega), HU.out] at this
    exact this)
  have HPT : Hid (∀ W, Calls Tryz.prog 17 #[.agg #[.string ⟨#[104, 116, 116, 112]⟩, .string ⟨#[]⟩, .string ⟨#[]⟩, .string ⟨#[104, 46, 120]⟩, .int .i64 p, .string ⟨#[47, 97]⟩, .bool false, .string ⟨#[]⟩, .bool false, .string ⟨#[]⟩]] W fun e w' => e = .returned (.int .i64 p) ∧ Below W.heap.size W w') := Lib.hid (by
    intro W
    have := uPortU_any ⟨#[104, 116, 116, 112]⟩ ⟨#[]⟩ ⟨#[]⟩ ⟨#[104, 46, 120]⟩ ⟨#[47, 97]⟩ ⟨#[]⟩ ⟨#[]⟩ p false false W
    rw [if_neg (by omega)] at this
    exact this)
  clear hI hIl hml hE
  go_enter Tryz.func8, Tryz.ntmps8
  go_wp2_with fail
  refine (HDC.out _).mono ?_
  rintro e w1 ⟨rfl, hb1⟩
  have HB1 := Lib.hid hb1
  clear hb1
  go_wp2_with fail
  refine (HP.out _ (env_below HE.out HB1.out)).mono ?_
  rintro e w2 ⟨rfl, hb2⟩
  have HB4 := Lib.hid (below_more (below_more (below_then HB1.out hb2) (.cells #[.string ⟨#[104, 116, 116, 112]⟩, .string ⟨#[]⟩, .string ⟨#[]⟩, .string ⟨#[104, 46, 120]⟩, .int .i64 p, .string ⟨#[47, 97]⟩, .bool false, .string ⟨#[]⟩, .bool false, .string ⟨#[]⟩] 24)) (.cells #[.string ⟨#[104, 116, 116, 112]⟩, .string ⟨#[]⟩, .string ⟨#[]⟩, .string ⟨#[104, 46, 120]⟩, .int .i64 p, .string ⟨#[47, 97]⟩, .bool false, .string ⟨#[]⟩, .bool false, .string ⟨#[]⟩] 24))
  have HS4 := Lib.hid (Rw.more (Rw.alloc (base := 0) w2 24 #[.string ⟨#[104, 116, 116, 112]⟩, .string ⟨#[]⟩, .string ⟨#[]⟩, .string ⟨#[104, 46, 120]⟩, .int .i64 p, .string ⟨#[47, 97]⟩, .bool false, .string ⟨#[]⟩, .bool false, .string ⟨#[]⟩] (Nat.zero_le _)) (.cells #[.string ⟨#[104, 116, 116, 112]⟩, .string ⟨#[]⟩, .string ⟨#[]⟩, .string ⟨#[104, 46, 120]⟩, .int .i64 p, .string ⟨#[47, 97]⟩, .bool false, .string ⟨#[]⟩, .bool false, .string ⟨#[]⟩] 24))
  have HR4 := Lib.hid (Rw.alloc (base := 0) (w2.alloc (.cells #[.string ⟨#[104, 116, 116, 112]⟩, .string ⟨#[]⟩, .string ⟨#[]⟩, .string ⟨#[104, 46, 120]⟩, .int .i64 p, .string ⟨#[47, 97]⟩, .bool false, .string ⟨#[]⟩, .bool false, .string ⟨#[]⟩] 24)) 24 #[.string ⟨#[104, 116, 116, 112]⟩, .string ⟨#[]⟩, .string ⟨#[]⟩, .string ⟨#[104, 46, 120]⟩, .int .i64 p, .string ⟨#[47, 97]⟩, .bool false, .string ⟨#[]⟩, .bool false, .string ⟨#[]⟩] (Nat.zero_le _))
  clear hb2
  have ka0 := Rw.cell HS4.out (j := 0) rfl
  have kb0 := Rw.cell HR4.out (j := 0) rfl
  have ka1 := Rw.cell HS4.out (j := 1) rfl
  have kb1 := Rw.cell HR4.out (j := 1) rfl
  have ka2 := Rw.cell HS4.out (j := 2) rfl
  have kb2 := Rw.cell HR4.out (j := 2) rfl
  have ka3 := Rw.cell HS4.out (j := 3) rfl
  have kb3 := Rw.cell HR4.out (j := 3) rfl
  have ka4 := Rw.cell HS4.out (j := 4) rfl
  have kb4 := Rw.cell HR4.out (j := 4) rfl
  have ka5 := Rw.cell HS4.out (j := 5) rfl
  have kb5 := Rw.cell HR4.out (j := 5) rfl
  have ka6 := Rw.cell HS4.out (j := 6) rfl
  have kb6 := Rw.cell HR4.out (j := 6) rfl
  have ka7 := Rw.cell HS4.out (j := 7) rfl
  have kb7 := Rw.cell HR4.out (j := 7) rfl
  have ka8 := Rw.cell HS4.out (j := 8) rfl
  have kb8 := Rw.cell HR4.out (j := 8) rfl
  have ka9 := Rw.cell HS4.out (j := 9) rfl
  have kb9 := Rw.cell HR4.out (j := 9) rfl
  go_wp2_with fail
  refine (HPT.out _).mono ?_
  rintro e z1 ⟨rfl, hc1⟩
  have HC1 := Lib.hid (below_then HB4.out hc1)
  clear hc1
  go_wp2_with fail
  refine (HAW.out _ (env_below HE.out HC1.out)).mono ?_
  rintro e z2 ⟨rfl, hc2⟩
  have HC2 := Lib.hid (below_then HC1.out hc2)
  clear hc2
  go_wp2_with fail
  go_ret
  exact ⟨rfl, HC2.out⟩

set_option maxHeartbeats 2000000 in
theorem uparts_0000c (p : Int) (hp : 65535 < p ∧ p ≤ 70000) (w : World) (hE : Env11 w) :
    Calls Tryz.prog 8 #[.int .i64 p, .bool false, .bool false, .bool false, .bool false] w fun e w' => e = .returned (.bool true) ∧ Below w.heap.size w w' := by
  have HE := Lib.hid hE
  have HAW := Lib.hid (fun W (hW : Env11 W) => uawake_any W hW)
  have HDC := Lib.hid (fun W => udecimal_any p (by omega) W)
  have hml := Lib.itoa_length_le p (by omega) (by omega)
  obtain ⟨I, hI⟩ : ∃ I : ByteArray, I = ⟨(Lib.itoa p).toArray⟩ := ⟨_, rfl⟩
  have hIs : I.size ≤ 21 := by rw [hI, mk_size]; omega
  have hIl : I.data.toList = Lib.itoa p := by rw [hI]
  rw [← hI] at HDC
  have s0 := part_small ((⟨#[104, 116, 116, 112]⟩ : ByteArray) ++ (⟨#[58, 47, 47]⟩ : ByteArray)) (by simp <;> omega)
  have s1 := part_small (((⟨#[104, 116, 116, 112]⟩ : ByteArray) ++ (⟨#[58, 47, 47]⟩ : ByteArray)) ++ (⟨#[104, 46, 120, 58, 48, 48]⟩ : ByteArray)) (by simp <;> omega)
  have s2 := part_small ((((⟨#[104, 116, 116, 112]⟩ : ByteArray) ++ (⟨#[58, 47, 47]⟩ : ByteArray)) ++ (⟨#[104, 46, 120, 58, 48, 48]⟩ : ByteArray)) ++ I) (by simp [hIl] <;> omega)
  have s3 := part_small (((((⟨#[104, 116, 116, 112]⟩ : ByteArray) ++ (⟨#[58, 47, 47]⟩ : ByteArray)) ++ (⟨#[104, 46, 120, 58, 48, 48]⟩ : ByteArray)) ++ I) ++ (⟨#[47, 97]⟩ : ByteArray)) (by simp [hIl] <;> omega)
  have HX : Hid ((((((⟨#[104, 116, 116, 112]⟩ : ByteArray) ++ (⟨#[58, 47, 47]⟩ : ByteArray)) ++ (⟨#[104, 46, 120, 58, 48, 48]⟩ : ByteArray)) ++ I) ++ (⟨#[47, 97]⟩ : ByteArray)).data.toList = partsT false false false false p) := Lib.hid (by simp [hIl, partsT, httpL])
  have HP : Hid (∀ W, Env11 W → Calls Tryz.prog 10 #[.string (((((⟨#[104, 116, 116, 112]⟩ : ByteArray) ++ (⟨#[58, 47, 47]⟩ : ByteArray)) ++ (⟨#[104, 46, 120, 58, 48, 48]⟩ : ByteArray)) ++ I) ++ (⟨#[47, 97]⟩ : ByteArray))] W fun e w' => e = .returned (.tuple #[.agg #[.string ⟨#[]⟩, .string ⟨#[]⟩, .string ⟨#[]⟩, .string ⟨#[]⟩, .int .i64 0, .string ⟨#[]⟩, .bool false, .string ⟨#[]⟩, .bool false, .string ⟨#[]⟩], .int .i64 8]) ∧ Below W.heap.size W w') := Lib.hid (by
    intro W hW
    have := uparse_any (((((⟨#[104, 116, 116, 112]⟩ : ByteArray) ++ (⟨#[58, 47, 47]⟩ : ByteArray)) ++ (⟨#[104, 46, 120, 58, 48, 48]⟩ : ByteArray)) ++ I) ++ (⟨#[47, 97]⟩ : ByteArray)) (by omega) W hW
    rw [HX.out, parts_url false false false false p (by omega), if_neg (by omega)] at this
    exact this)
  clear hI hIl hml hE
  go_enter Tryz.func8, Tryz.ntmps8
  go_wp2_with fail
  refine (HDC.out _).mono ?_
  rintro e w1 ⟨rfl, hb1⟩
  have HB1 := Lib.hid hb1
  clear hb1
  go_wp2_with fail
  refine (HP.out _ (env_below HE.out HB1.out)).mono ?_
  rintro e w2 ⟨rfl, hb2⟩
  have HB2 := Lib.hid (below_more (below_then HB1.out hb2) (.cells #[.string ⟨#[]⟩, .string ⟨#[]⟩, .string ⟨#[]⟩, .string ⟨#[]⟩, .int .i64 0, .string ⟨#[]⟩, .bool false, .string ⟨#[]⟩, .bool false, .string ⟨#[]⟩] 24))
  clear hb2
  go_wp2_with fail
  refine (HAW.out _ (env_below HE.out HB2.out)).mono ?_
  rintro e w3 ⟨rfl, hb3⟩
  have HB3 := Lib.hid (below_then HB2.out hb3)
  clear hb3
  go_wp2_with fail
  go_ret
  exact ⟨rfl, HB3.out⟩

set_option maxHeartbeats 2000000 in
theorem uparts_0001a (w : World) (hE : Env11 w) :
    Calls Tryz.prog 8 #[.int .i64 80, .bool false, .bool false, .bool true, .bool false] w fun e w' => e = .returned (.bool true) ∧ Below w.heap.size w w' := by
  have HE := Lib.hid hE
  have HAW := Lib.hid (fun W (hW : Env11 W) => uawake_any W hW)
  have HDC := Lib.hid (fun W => udecimal_any 80 (by omega) W)
  have hml := Lib.itoa_length_le 80 (by omega) (by omega)
  obtain ⟨I, hI⟩ : ∃ I : ByteArray, I = ⟨(Lib.itoa 80).toArray⟩ := ⟨_, rfl⟩
  have hIs : I.size ≤ 21 := by rw [hI, mk_size]; omega
  have hIl : I.data.toList = Lib.itoa 80 := by rw [hI]
  rw [← hI] at HDC
  have s0 := part_small ((⟨#[104, 116, 116, 112]⟩ : ByteArray) ++ (⟨#[58, 47, 47]⟩ : ByteArray)) (by simp <;> omega)
  have s1 := part_small (((⟨#[104, 116, 116, 112]⟩ : ByteArray) ++ (⟨#[58, 47, 47]⟩ : ByteArray)) ++ (⟨#[104, 46, 120, 58, 48, 48]⟩ : ByteArray)) (by simp <;> omega)
  have s2 := part_small ((((⟨#[104, 116, 116, 112]⟩ : ByteArray) ++ (⟨#[58, 47, 47]⟩ : ByteArray)) ++ (⟨#[104, 46, 120, 58, 48, 48]⟩ : ByteArray)) ++ I) (by simp [hIl] <;> omega)
  have s3 := part_small (((((⟨#[104, 116, 116, 112]⟩ : ByteArray) ++ (⟨#[58, 47, 47]⟩ : ByteArray)) ++ (⟨#[104, 46, 120, 58, 48, 48]⟩ : ByteArray)) ++ I) ++ (⟨#[47, 97]⟩ : ByteArray)) (by simp [hIl] <;> omega)
  have s4 := part_small ((((((⟨#[104, 116, 116, 112]⟩ : ByteArray) ++ (⟨#[58, 47, 47]⟩ : ByteArray)) ++ (⟨#[104, 46, 120, 58, 48, 48]⟩ : ByteArray)) ++ I) ++ (⟨#[47, 97]⟩ : ByteArray)) ++ (⟨#[35, 102]⟩ : ByteArray)) (by simp [hIl] <;> omega)
  have HX : Hid (((((((⟨#[104, 116, 116, 112]⟩ : ByteArray) ++ (⟨#[58, 47, 47]⟩ : ByteArray)) ++ (⟨#[104, 46, 120, 58, 48, 48]⟩ : ByteArray)) ++ I) ++ (⟨#[47, 97]⟩ : ByteArray)) ++ (⟨#[35, 102]⟩ : ByteArray)).data.toList = partsT false false false true 80) := Lib.hid (by simp [hIl, partsT, httpL])
  have HU : Hid (partsU false false false true 80 = ⟨[104, 116, 116, 112], [], [], [104, 46, 120], (-1), [47, 97], false, [], true, [102]⟩) := Lib.hid (by simp [partsU, httpL])
  have HP : Hid (∀ W, Env11 W → Calls Tryz.prog 10 #[.string ((((((⟨#[104, 116, 116, 112]⟩ : ByteArray) ++ (⟨#[58, 47, 47]⟩ : ByteArray)) ++ (⟨#[104, 46, 120, 58, 48, 48]⟩ : ByteArray)) ++ I) ++ (⟨#[47, 97]⟩ : ByteArray)) ++ (⟨#[35, 102]⟩ : ByteArray))] W fun e w' => e = .returned (.tuple #[.agg #[.string ⟨#[104, 116, 116, 112]⟩, .string ⟨#[]⟩, .string ⟨#[]⟩, .string ⟨#[104, 46, 120]⟩, .int .i64 (-1), .string ⟨#[47, 97]⟩, .bool false, .string ⟨#[]⟩, .bool true, .string ⟨#[102]⟩], .int .i64 0]) ∧ Below W.heap.size W w') := Lib.hid (by
    intro W hW
    have := uparse_any ((((((⟨#[104, 116, 116, 112]⟩ : ByteArray) ++ (⟨#[58, 47, 47]⟩ : ByteArray)) ++ (⟨#[104, 46, 120, 58, 48, 48]⟩ : ByteArray)) ++ I) ++ (⟨#[47, 97]⟩ : ByteArray)) ++ (⟨#[35, 102]⟩ : ByteArray)) (by omega) W hW
    rw [HX.out, parts_url false false false true 80 (by omega), if_pos (by omega), HU.out] at this
    exact this)
  have HPT : Hid (∀ W, Calls Tryz.prog 17 #[.agg #[.string ⟨#[104, 116, 116, 112]⟩, .string ⟨#[]⟩, .string ⟨#[]⟩, .string ⟨#[104, 46, 120]⟩, .int .i64 (-1), .string ⟨#[47, 97]⟩, .bool false, .string ⟨#[]⟩, .bool true, .string ⟨#[102]⟩]] W fun e w' => e = .returned (.int .i64 80) ∧ Below W.heap.size W w') := Lib.hid (by
    intro W
    have := uPortU_any ⟨#[104, 116, 116, 112]⟩ ⟨#[]⟩ ⟨#[]⟩ ⟨#[104, 46, 120]⟩ ⟨#[47, 97]⟩ ⟨#[]⟩ ⟨#[102]⟩ (-1) false true W
    exact this)
  clear hI hIl hml hE
  go_enter Tryz.func8, Tryz.ntmps8
  go_wp2_with fail
  refine (HDC.out _).mono ?_
  rintro e w1 ⟨rfl, hb1⟩
  have HB1 := Lib.hid hb1
  clear hb1
  go_wp2_with fail
  refine (HP.out _ (env_below HE.out HB1.out)).mono ?_
  rintro e w2 ⟨rfl, hb2⟩
  have HB4 := Lib.hid (below_more (below_more (below_then HB1.out hb2) (.cells #[.string ⟨#[104, 116, 116, 112]⟩, .string ⟨#[]⟩, .string ⟨#[]⟩, .string ⟨#[104, 46, 120]⟩, .int .i64 (-1), .string ⟨#[47, 97]⟩, .bool false, .string ⟨#[]⟩, .bool true, .string ⟨#[102]⟩] 24)) (.cells #[.string ⟨#[104, 116, 116, 112]⟩, .string ⟨#[]⟩, .string ⟨#[]⟩, .string ⟨#[104, 46, 120]⟩, .int .i64 (-1), .string ⟨#[47, 97]⟩, .bool false, .string ⟨#[]⟩, .bool true, .string ⟨#[102]⟩] 24))
  have HS4 := Lib.hid (Rw.more (Rw.alloc (base := 0) w2 24 #[.string ⟨#[104, 116, 116, 112]⟩, .string ⟨#[]⟩, .string ⟨#[]⟩, .string ⟨#[104, 46, 120]⟩, .int .i64 (-1), .string ⟨#[47, 97]⟩, .bool false, .string ⟨#[]⟩, .bool true, .string ⟨#[102]⟩] (Nat.zero_le _)) (.cells #[.string ⟨#[104, 116, 116, 112]⟩, .string ⟨#[]⟩, .string ⟨#[]⟩, .string ⟨#[104, 46, 120]⟩, .int .i64 (-1), .string ⟨#[47, 97]⟩, .bool false, .string ⟨#[]⟩, .bool true, .string ⟨#[102]⟩] 24))
  have HR4 := Lib.hid (Rw.alloc (base := 0) (w2.alloc (.cells #[.string ⟨#[104, 116, 116, 112]⟩, .string ⟨#[]⟩, .string ⟨#[]⟩, .string ⟨#[104, 46, 120]⟩, .int .i64 (-1), .string ⟨#[47, 97]⟩, .bool false, .string ⟨#[]⟩, .bool true, .string ⟨#[102]⟩] 24)) 24 #[.string ⟨#[104, 116, 116, 112]⟩, .string ⟨#[]⟩, .string ⟨#[]⟩, .string ⟨#[104, 46, 120]⟩, .int .i64 (-1), .string ⟨#[47, 97]⟩, .bool false, .string ⟨#[]⟩, .bool true, .string ⟨#[102]⟩] (Nat.zero_le _))
  clear hb2
  have ka0 := Rw.cell HS4.out (j := 0) rfl
  have kb0 := Rw.cell HR4.out (j := 0) rfl
  have ka1 := Rw.cell HS4.out (j := 1) rfl
  have kb1 := Rw.cell HR4.out (j := 1) rfl
  have ka2 := Rw.cell HS4.out (j := 2) rfl
  have kb2 := Rw.cell HR4.out (j := 2) rfl
  have ka3 := Rw.cell HS4.out (j := 3) rfl
  have kb3 := Rw.cell HR4.out (j := 3) rfl
  have ka4 := Rw.cell HS4.out (j := 4) rfl
  have kb4 := Rw.cell HR4.out (j := 4) rfl
  have ka5 := Rw.cell HS4.out (j := 5) rfl
  have kb5 := Rw.cell HR4.out (j := 5) rfl
  have ka6 := Rw.cell HS4.out (j := 6) rfl
  have kb6 := Rw.cell HR4.out (j := 6) rfl
  have ka7 := Rw.cell HS4.out (j := 7) rfl
  have kb7 := Rw.cell HR4.out (j := 7) rfl
  have ka8 := Rw.cell HS4.out (j := 8) rfl
  have kb8 := Rw.cell HR4.out (j := 8) rfl
  have ka9 := Rw.cell HS4.out (j := 9) rfl
  have kb9 := Rw.cell HR4.out (j := 9) rfl
  go_wp2_with fail
  refine (HPT.out _).mono ?_
  rintro e z1 ⟨rfl, hc1⟩
  have HC1 := Lib.hid (below_then HB4.out hc1)
  clear hc1
  go_wp2_with fail
  refine (HAW.out _ (env_below HE.out HC1.out)).mono ?_
  rintro e z2 ⟨rfl, hc2⟩
  have HC2 := Lib.hid (below_then HC1.out hc2)
  clear hc2
  go_wp2_with fail
  go_ret
  exact ⟨rfl, HC2.out⟩

set_option maxHeartbeats 2000000 in
theorem uparts_0001b (p : Int) (hp : 0 ≤ p ∧ p ≤ 65535) (hd : ¬ p = 80) (w : World) (hE : Env11 w) :
    Calls Tryz.prog 8 #[.int .i64 p, .bool false, .bool false, .bool true, .bool false] w fun e w' => e = .returned (.bool true) ∧ Below w.heap.size w w' := by
  have HE := Lib.hid hE
  have HAW := Lib.hid (fun W (hW : Env11 W) => uawake_any W hW)
  have HDC := Lib.hid (fun W => udecimal_any p (by omega) W)
  have hml := Lib.itoa_length_le p (by omega) (by omega)
  obtain ⟨I, hI⟩ : ∃ I : ByteArray, I = ⟨(Lib.itoa p).toArray⟩ := ⟨_, rfl⟩
  have hIs : I.size ≤ 21 := by rw [hI, mk_size]; omega
  have hIl : I.data.toList = Lib.itoa p := by rw [hI]
  rw [← hI] at HDC
  have s0 := part_small ((⟨#[104, 116, 116, 112]⟩ : ByteArray) ++ (⟨#[58, 47, 47]⟩ : ByteArray)) (by simp <;> omega)
  have s1 := part_small (((⟨#[104, 116, 116, 112]⟩ : ByteArray) ++ (⟨#[58, 47, 47]⟩ : ByteArray)) ++ (⟨#[104, 46, 120, 58, 48, 48]⟩ : ByteArray)) (by simp <;> omega)
  have s2 := part_small ((((⟨#[104, 116, 116, 112]⟩ : ByteArray) ++ (⟨#[58, 47, 47]⟩ : ByteArray)) ++ (⟨#[104, 46, 120, 58, 48, 48]⟩ : ByteArray)) ++ I) (by simp [hIl] <;> omega)
  have s3 := part_small (((((⟨#[104, 116, 116, 112]⟩ : ByteArray) ++ (⟨#[58, 47, 47]⟩ : ByteArray)) ++ (⟨#[104, 46, 120, 58, 48, 48]⟩ : ByteArray)) ++ I) ++ (⟨#[47, 97]⟩ : ByteArray)) (by simp [hIl] <;> omega)
  have s4 := part_small ((((((⟨#[104, 116, 116, 112]⟩ : ByteArray) ++ (⟨#[58, 47, 47]⟩ : ByteArray)) ++ (⟨#[104, 46, 120, 58, 48, 48]⟩ : ByteArray)) ++ I) ++ (⟨#[47, 97]⟩ : ByteArray)) ++ (⟨#[35, 102]⟩ : ByteArray)) (by simp [hIl] <;> omega)
  have HX : Hid (((((((⟨#[104, 116, 116, 112]⟩ : ByteArray) ++ (⟨#[58, 47, 47]⟩ : ByteArray)) ++ (⟨#[104, 46, 120, 58, 48, 48]⟩ : ByteArray)) ++ I) ++ (⟨#[47, 97]⟩ : ByteArray)) ++ (⟨#[35, 102]⟩ : ByteArray)).data.toList = partsT false false false true p) := Lib.hid (by simp [hIl, partsT, httpL])
  have HU : Hid (partsU false false false true p = ⟨[104, 116, 116, 112], [], [], [104, 46, 120], p, [47, 97], false, [], true, [102]⟩) := Lib.hid (by simp [partsU, httpL, hd])
  have HP : Hid (∀ W, Env11 W → Calls Tryz.prog 10 #[.string ((((((⟨#[104, 116, 116, 112]⟩ : ByteArray) ++ (⟨#[58, 47, 47]⟩ : ByteArray)) ++ (⟨#[104, 46, 120, 58, 48, 48]⟩ : ByteArray)) ++ I) ++ (⟨#[47, 97]⟩ : ByteArray)) ++ (⟨#[35, 102]⟩ : ByteArray))] W fun e w' => e = .returned (.tuple #[.agg #[.string ⟨#[104, 116, 116, 112]⟩, .string ⟨#[]⟩, .string ⟨#[]⟩, .string ⟨#[104, 46, 120]⟩, .int .i64 p, .string ⟨#[47, 97]⟩, .bool false, .string ⟨#[]⟩, .bool true, .string ⟨#[102]⟩], .int .i64 0]) ∧ Below W.heap.size W w') := Lib.hid (by
    intro W hW
    have := uparse_any ((((((⟨#[104, 116, 116, 112]⟩ : ByteArray) ++ (⟨#[58, 47, 47]⟩ : ByteArray)) ++ (⟨#[104, 46, 120, 58, 48, 48]⟩ : ByteArray)) ++ I) ++ (⟨#[47, 97]⟩ : ByteArray)) ++ (⟨#[35, 102]⟩ : ByteArray)) (by omega) W hW
    rw [HX.out, parts_url false false false true p (by omega), if_pos (by omega), HU.out] at this
    exact this)
  have HPT : Hid (∀ W, Calls Tryz.prog 17 #[.agg #[.string ⟨#[104, 116, 116, 112]⟩, .string ⟨#[]⟩, .string ⟨#[]⟩, .string ⟨#[104, 46, 120]⟩, .int .i64 p, .string ⟨#[47, 97]⟩, .bool false, .string ⟨#[]⟩, .bool true, .string ⟨#[102]⟩]] W fun e w' => e = .returned (.int .i64 p) ∧ Below W.heap.size W w') := Lib.hid (by
    intro W
    have := uPortU_any ⟨#[104, 116, 116, 112]⟩ ⟨#[]⟩ ⟨#[]⟩ ⟨#[104, 46, 120]⟩ ⟨#[47, 97]⟩ ⟨#[]⟩ ⟨#[102]⟩ p false true W
    rw [if_neg (by omega)] at this
    exact this)
  clear hI hIl hml hE
  go_enter Tryz.func8, Tryz.ntmps8
  go_wp2_with fail
  refine (HDC.out _).mono ?_
  rintro e w1 ⟨rfl, hb1⟩
  have HB1 := Lib.hid hb1
  clear hb1
  go_wp2_with fail
  refine (HP.out _ (env_below HE.out HB1.out)).mono ?_
  rintro e w2 ⟨rfl, hb2⟩
  have HB4 := Lib.hid (below_more (below_more (below_then HB1.out hb2) (.cells #[.string ⟨#[104, 116, 116, 112]⟩, .string ⟨#[]⟩, .string ⟨#[]⟩, .string ⟨#[104, 46, 120]⟩, .int .i64 p, .string ⟨#[47, 97]⟩, .bool false, .string ⟨#[]⟩, .bool true, .string ⟨#[102]⟩] 24)) (.cells #[.string ⟨#[104, 116, 116, 112]⟩, .string ⟨#[]⟩, .string ⟨#[]⟩, .string ⟨#[104, 46, 120]⟩, .int .i64 p, .string ⟨#[47, 97]⟩, .bool false, .string ⟨#[]⟩, .bool true, .string ⟨#[102]⟩] 24))
  have HS4 := Lib.hid (Rw.more (Rw.alloc (base := 0) w2 24 #[.string ⟨#[104, 116, 116, 112]⟩, .string ⟨#[]⟩, .string ⟨#[]⟩, .string ⟨#[104, 46, 120]⟩, .int .i64 p, .string ⟨#[47, 97]⟩, .bool false, .string ⟨#[]⟩, .bool true, .string ⟨#[102]⟩] (Nat.zero_le _)) (.cells #[.string ⟨#[104, 116, 116, 112]⟩, .string ⟨#[]⟩, .string ⟨#[]⟩, .string ⟨#[104, 46, 120]⟩, .int .i64 p, .string ⟨#[47, 97]⟩, .bool false, .string ⟨#[]⟩, .bool true, .string ⟨#[102]⟩] 24))
  have HR4 := Lib.hid (Rw.alloc (base := 0) (w2.alloc (.cells #[.string ⟨#[104, 116, 116, 112]⟩, .string ⟨#[]⟩, .string ⟨#[]⟩, .string ⟨#[104, 46, 120]⟩, .int .i64 p, .string ⟨#[47, 97]⟩, .bool false, .string ⟨#[]⟩, .bool true, .string ⟨#[102]⟩] 24)) 24 #[.string ⟨#[104, 116, 116, 112]⟩, .string ⟨#[]⟩, .string ⟨#[]⟩, .string ⟨#[104, 46, 120]⟩, .int .i64 p, .string ⟨#[47, 97]⟩, .bool false, .string ⟨#[]⟩, .bool true, .string ⟨#[102]⟩] (Nat.zero_le _))
  clear hb2
  have ka0 := Rw.cell HS4.out (j := 0) rfl
  have kb0 := Rw.cell HR4.out (j := 0) rfl
  have ka1 := Rw.cell HS4.out (j := 1) rfl
  have kb1 := Rw.cell HR4.out (j := 1) rfl
  have ka2 := Rw.cell HS4.out (j := 2) rfl
  have kb2 := Rw.cell HR4.out (j := 2) rfl
  have ka3 := Rw.cell HS4.out (j := 3) rfl
  have kb3 := Rw.cell HR4.out (j := 3) rfl
  have ka4 := Rw.cell HS4.out (j := 4) rfl
  have kb4 := Rw.cell HR4.out (j := 4) rfl
  have ka5 := Rw.cell HS4.out (j := 5) rfl
  have kb5 := Rw.cell HR4.out (j := 5) rfl
  have ka6 := Rw.cell HS4.out (j := 6) rfl
  have kb6 := Rw.cell HR4.out (j := 6) rfl
  have ka7 := Rw.cell HS4.out (j := 7) rfl
  have kb7 := Rw.cell HR4.out (j := 7) rfl
  have ka8 := Rw.cell HS4.out (j := 8) rfl
  have kb8 := Rw.cell HR4.out (j := 8) rfl
  have ka9 := Rw.cell HS4.out (j := 9) rfl
  have kb9 := Rw.cell HR4.out (j := 9) rfl
  go_wp2_with fail
  refine (HPT.out _).mono ?_
  rintro e z1 ⟨rfl, hc1⟩
  have HC1 := Lib.hid (below_then HB4.out hc1)
  clear hc1
  go_wp2_with fail
  refine (HAW.out _ (env_below HE.out HC1.out)).mono ?_
  rintro e z2 ⟨rfl, hc2⟩
  have HC2 := Lib.hid (below_then HC1.out hc2)
  clear hc2
  go_wp2_with fail
  go_ret
  exact ⟨rfl, HC2.out⟩

set_option maxHeartbeats 2000000 in
theorem uparts_0001c (p : Int) (hp : 65535 < p ∧ p ≤ 70000) (w : World) (hE : Env11 w) :
    Calls Tryz.prog 8 #[.int .i64 p, .bool false, .bool false, .bool true, .bool false] w fun e w' => e = .returned (.bool true) ∧ Below w.heap.size w w' := by
  have HE := Lib.hid hE
  have HAW := Lib.hid (fun W (hW : Env11 W) => uawake_any W hW)
  have HDC := Lib.hid (fun W => udecimal_any p (by omega) W)
  have hml := Lib.itoa_length_le p (by omega) (by omega)
  obtain ⟨I, hI⟩ : ∃ I : ByteArray, I = ⟨(Lib.itoa p).toArray⟩ := ⟨_, rfl⟩
  have hIs : I.size ≤ 21 := by rw [hI, mk_size]; omega
  have hIl : I.data.toList = Lib.itoa p := by rw [hI]
  rw [← hI] at HDC
  have s0 := part_small ((⟨#[104, 116, 116, 112]⟩ : ByteArray) ++ (⟨#[58, 47, 47]⟩ : ByteArray)) (by simp <;> omega)
  have s1 := part_small (((⟨#[104, 116, 116, 112]⟩ : ByteArray) ++ (⟨#[58, 47, 47]⟩ : ByteArray)) ++ (⟨#[104, 46, 120, 58, 48, 48]⟩ : ByteArray)) (by simp <;> omega)
  have s2 := part_small ((((⟨#[104, 116, 116, 112]⟩ : ByteArray) ++ (⟨#[58, 47, 47]⟩ : ByteArray)) ++ (⟨#[104, 46, 120, 58, 48, 48]⟩ : ByteArray)) ++ I) (by simp [hIl] <;> omega)
  have s3 := part_small (((((⟨#[104, 116, 116, 112]⟩ : ByteArray) ++ (⟨#[58, 47, 47]⟩ : ByteArray)) ++ (⟨#[104, 46, 120, 58, 48, 48]⟩ : ByteArray)) ++ I) ++ (⟨#[47, 97]⟩ : ByteArray)) (by simp [hIl] <;> omega)
  have s4 := part_small ((((((⟨#[104, 116, 116, 112]⟩ : ByteArray) ++ (⟨#[58, 47, 47]⟩ : ByteArray)) ++ (⟨#[104, 46, 120, 58, 48, 48]⟩ : ByteArray)) ++ I) ++ (⟨#[47, 97]⟩ : ByteArray)) ++ (⟨#[35, 102]⟩ : ByteArray)) (by simp [hIl] <;> omega)
  have HX : Hid (((((((⟨#[104, 116, 116, 112]⟩ : ByteArray) ++ (⟨#[58, 47, 47]⟩ : ByteArray)) ++ (⟨#[104, 46, 120, 58, 48, 48]⟩ : ByteArray)) ++ I) ++ (⟨#[47, 97]⟩ : ByteArray)) ++ (⟨#[35, 102]⟩ : ByteArray)).data.toList = partsT false false false true p) := Lib.hid (by simp [hIl, partsT, httpL])
  have HP : Hid (∀ W, Env11 W → Calls Tryz.prog 10 #[.string ((((((⟨#[104, 116, 116, 112]⟩ : ByteArray) ++ (⟨#[58, 47, 47]⟩ : ByteArray)) ++ (⟨#[104, 46, 120, 58, 48, 48]⟩ : ByteArray)) ++ I) ++ (⟨#[47, 97]⟩ : ByteArray)) ++ (⟨#[35, 102]⟩ : ByteArray))] W fun e w' => e = .returned (.tuple #[.agg #[.string ⟨#[]⟩, .string ⟨#[]⟩, .string ⟨#[]⟩, .string ⟨#[]⟩, .int .i64 0, .string ⟨#[]⟩, .bool false, .string ⟨#[]⟩, .bool false, .string ⟨#[]⟩], .int .i64 8]) ∧ Below W.heap.size W w') := Lib.hid (by
    intro W hW
    have := uparse_any ((((((⟨#[104, 116, 116, 112]⟩ : ByteArray) ++ (⟨#[58, 47, 47]⟩ : ByteArray)) ++ (⟨#[104, 46, 120, 58, 48, 48]⟩ : ByteArray)) ++ I) ++ (⟨#[47, 97]⟩ : ByteArray)) ++ (⟨#[35, 102]⟩ : ByteArray)) (by omega) W hW
    rw [HX.out, parts_url false false false true p (by omega), if_neg (by omega)] at this
    exact this)
  clear hI hIl hml hE
  go_enter Tryz.func8, Tryz.ntmps8
  go_wp2_with fail
  refine (HDC.out _).mono ?_
  rintro e w1 ⟨rfl, hb1⟩
  have HB1 := Lib.hid hb1
  clear hb1
  go_wp2_with fail
  refine (HP.out _ (env_below HE.out HB1.out)).mono ?_
  rintro e w2 ⟨rfl, hb2⟩
  have HB2 := Lib.hid (below_more (below_then HB1.out hb2) (.cells #[.string ⟨#[]⟩, .string ⟨#[]⟩, .string ⟨#[]⟩, .string ⟨#[]⟩, .int .i64 0, .string ⟨#[]⟩, .bool false, .string ⟨#[]⟩, .bool false, .string ⟨#[]⟩] 24))
  clear hb2
  go_wp2_with fail
  refine (HAW.out _ (env_below HE.out HB2.out)).mono ?_
  rintro e w3 ⟨rfl, hb3⟩
  have HB3 := Lib.hid (below_then HB2.out hb3)
  clear hb3
  go_wp2_with fail
  go_ret
  exact ⟨rfl, HB3.out⟩

set_option maxHeartbeats 2000000 in
theorem uparts_0010a (w : World) (hE : Env11 w) :
    Calls Tryz.prog 8 #[.int .i64 80, .bool false, .bool true, .bool false, .bool false] w fun e w' => e = .returned (.bool true) ∧ Below w.heap.size w w' := by
  have HE := Lib.hid hE
  have HAW := Lib.hid (fun W (hW : Env11 W) => uawake_any W hW)
  have HDC := Lib.hid (fun W => udecimal_any 80 (by omega) W)
  have hml := Lib.itoa_length_le 80 (by omega) (by omega)
  obtain ⟨I, hI⟩ : ∃ I : ByteArray, I = ⟨(Lib.itoa 80).toArray⟩ := ⟨_, rfl⟩
  have hIs : I.size ≤ 21 := by rw [hI, mk_size]; omega
  have hIl : I.data.toList = Lib.itoa 80 := by rw [hI]
  rw [← hI] at HDC
  have s0 := part_small ((⟨#[104, 116, 116, 112]⟩ : ByteArray) ++ (⟨#[58, 47, 47]⟩ : ByteArray)) (by simp <;> omega)
  have s1 := part_small (((⟨#[104, 116, 116, 112]⟩ : ByteArray) ++ (⟨#[58, 47, 47]⟩ : ByteArray)) ++ (⟨#[104, 46, 120, 58, 48, 48]⟩ : ByteArray)) (by simp <;> omega)
  have s2 := part_small ((((⟨#[104, 116, 116, 112]⟩ : ByteArray) ++ (⟨#[58, 47, 47]⟩ : ByteArray)) ++ (⟨#[104, 46, 120, 58, 48, 48]⟩ : ByteArray)) ++ I) (by simp [hIl] <;> omega)
  have s3 := part_small (((((⟨#[104, 116, 116, 112]⟩ : ByteArray) ++ (⟨#[58, 47, 47]⟩ : ByteArray)) ++ (⟨#[104, 46, 120, 58, 48, 48]⟩ : ByteArray)) ++ I) ++ (⟨#[47, 97]⟩ : ByteArray)) (by simp [hIl] <;> omega)
  have s4 := part_small ((((((⟨#[104, 116, 116, 112]⟩ : ByteArray) ++ (⟨#[58, 47, 47]⟩ : ByteArray)) ++ (⟨#[104, 46, 120, 58, 48, 48]⟩ : ByteArray)) ++ I) ++ (⟨#[47, 97]⟩ : ByteArray)) ++ (⟨#[63, 113]⟩ : ByteArray)) (by simp [hIl] <;> omega)
  have HX : Hid (((((((⟨#[104, 116, 116, 112]⟩ : ByteArray) ++ (⟨#[58, 47, 47]⟩ : ByteArray)) ++ (⟨#[104, 46, 120, 58, 48, 48]⟩ : ByteArray)) ++ I) ++ (⟨#[47, 97]⟩ : ByteArray)) ++ (⟨#[63, 113]⟩ : ByteArray)).data.toList = partsT false false true false 80) := Lib.hid (by simp [hIl, partsT, httpL])
  have HU : Hid (partsU false false true false 80 = ⟨[104, 116, 116, 112], [], [], [104, 46, 120], (-1), [47, 97], true, [113], false, []⟩) := Lib.hid (by simp [partsU, httpL])
  have HP : Hid (∀ W, Env11 W → Calls Tryz.prog 10 #[.string ((((((⟨#[104, 116, 116, 112]⟩ : ByteArray) ++ (⟨#[58, 47, 47]⟩ : ByteArray)) ++ (⟨#[104, 46, 120, 58, 48, 48]⟩ : ByteArray)) ++ I) ++ (⟨#[47, 97]⟩ : ByteArray)) ++ (⟨#[63, 113]⟩ : ByteArray))] W fun e w' => e = .returned (.tuple #[.agg #[.string ⟨#[104, 116, 116, 112]⟩, .string ⟨#[]⟩, .string ⟨#[]⟩, .string ⟨#[104, 46, 120]⟩, .int .i64 (-1), .string ⟨#[47, 97]⟩, .bool true, .string ⟨#[113]⟩, .bool false, .string ⟨#[]⟩], .int .i64 0]) ∧ Below W.heap.size W w') := Lib.hid (by
    intro W hW
    have := uparse_any ((((((⟨#[104, 116, 116, 112]⟩ : ByteArray) ++ (⟨#[58, 47, 47]⟩ : ByteArray)) ++ (⟨#[104, 46, 120, 58, 48, 48]⟩ : ByteArray)) ++ I) ++ (⟨#[47, 97]⟩ : ByteArray)) ++ (⟨#[63, 113]⟩ : ByteArray)) (by omega) W hW
    rw [HX.out, parts_url false false true false 80 (by omega), if_pos (by omega), HU.out] at this
    exact this)
  have HPT : Hid (∀ W, Calls Tryz.prog 17 #[.agg #[.string ⟨#[104, 116, 116, 112]⟩, .string ⟨#[]⟩, .string ⟨#[]⟩, .string ⟨#[104, 46, 120]⟩, .int .i64 (-1), .string ⟨#[47, 97]⟩, .bool true, .string ⟨#[113]⟩, .bool false, .string ⟨#[]⟩]] W fun e w' => e = .returned (.int .i64 80) ∧ Below W.heap.size W w') := Lib.hid (by
    intro W
    have := uPortU_any ⟨#[104, 116, 116, 112]⟩ ⟨#[]⟩ ⟨#[]⟩ ⟨#[104, 46, 120]⟩ ⟨#[47, 97]⟩ ⟨#[113]⟩ ⟨#[]⟩ (-1) true false W
    exact this)
  clear hI hIl hml hE
  go_enter Tryz.func8, Tryz.ntmps8
  go_wp2_with fail
  refine (HDC.out _).mono ?_
  rintro e w1 ⟨rfl, hb1⟩
  have HB1 := Lib.hid hb1
  clear hb1
  go_wp2_with fail
  refine (HP.out _ (env_below HE.out HB1.out)).mono ?_
  rintro e w2 ⟨rfl, hb2⟩
  have HB4 := Lib.hid (below_more (below_more (below_then HB1.out hb2) (.cells #[.string ⟨#[104, 116, 116, 112]⟩, .string ⟨#[]⟩, .string ⟨#[]⟩, .string ⟨#[104, 46, 120]⟩, .int .i64 (-1), .string ⟨#[47, 97]⟩, .bool true, .string ⟨#[113]⟩, .bool false, .string ⟨#[]⟩] 24)) (.cells #[.string ⟨#[104, 116, 116, 112]⟩, .string ⟨#[]⟩, .string ⟨#[]⟩, .string ⟨#[104, 46, 120]⟩, .int .i64 (-1), .string ⟨#[47, 97]⟩, .bool true, .string ⟨#[113]⟩, .bool false, .string ⟨#[]⟩] 24))
  have HS4 := Lib.hid (Rw.more (Rw.alloc (base := 0) w2 24 #[.string ⟨#[104, 116, 116, 112]⟩, .string ⟨#[]⟩, .string ⟨#[]⟩, .string ⟨#[104, 46, 120]⟩, .int .i64 (-1), .string ⟨#[47, 97]⟩, .bool true, .string ⟨#[113]⟩, .bool false, .string ⟨#[]⟩] (Nat.zero_le _)) (.cells #[.string ⟨#[104, 116, 116, 112]⟩, .string ⟨#[]⟩, .string ⟨#[]⟩, .string ⟨#[104, 46, 120]⟩, .int .i64 (-1), .string ⟨#[47, 97]⟩, .bool true, .string ⟨#[113]⟩, .bool false, .string ⟨#[]⟩] 24))
  have HR4 := Lib.hid (Rw.alloc (base := 0) (w2.alloc (.cells #[.string ⟨#[104, 116, 116, 112]⟩, .string ⟨#[]⟩, .string ⟨#[]⟩, .string ⟨#[104, 46, 120]⟩, .int .i64 (-1), .string ⟨#[47, 97]⟩, .bool true, .string ⟨#[113]⟩, .bool false, .string ⟨#[]⟩] 24)) 24 #[.string ⟨#[104, 116, 116, 112]⟩, .string ⟨#[]⟩, .string ⟨#[]⟩, .string ⟨#[104, 46, 120]⟩, .int .i64 (-1), .string ⟨#[47, 97]⟩, .bool true, .string ⟨#[113]⟩, .bool false, .string ⟨#[]⟩] (Nat.zero_le _))
  clear hb2
  have ka0 := Rw.cell HS4.out (j := 0) rfl
  have kb0 := Rw.cell HR4.out (j := 0) rfl
  have ka1 := Rw.cell HS4.out (j := 1) rfl
  have kb1 := Rw.cell HR4.out (j := 1) rfl
  have ka2 := Rw.cell HS4.out (j := 2) rfl
  have kb2 := Rw.cell HR4.out (j := 2) rfl
  have ka3 := Rw.cell HS4.out (j := 3) rfl
  have kb3 := Rw.cell HR4.out (j := 3) rfl
  have ka4 := Rw.cell HS4.out (j := 4) rfl
  have kb4 := Rw.cell HR4.out (j := 4) rfl
  have ka5 := Rw.cell HS4.out (j := 5) rfl
  have kb5 := Rw.cell HR4.out (j := 5) rfl
  have ka6 := Rw.cell HS4.out (j := 6) rfl
  have kb6 := Rw.cell HR4.out (j := 6) rfl
  have ka7 := Rw.cell HS4.out (j := 7) rfl
  have kb7 := Rw.cell HR4.out (j := 7) rfl
  have ka8 := Rw.cell HS4.out (j := 8) rfl
  have kb8 := Rw.cell HR4.out (j := 8) rfl
  have ka9 := Rw.cell HS4.out (j := 9) rfl
  have kb9 := Rw.cell HR4.out (j := 9) rfl
  go_wp2_with fail
  refine (HPT.out _).mono ?_
  rintro e z1 ⟨rfl, hc1⟩
  have HC1 := Lib.hid (below_then HB4.out hc1)
  clear hc1
  go_wp2_with fail
  refine (HAW.out _ (env_below HE.out HC1.out)).mono ?_
  rintro e z2 ⟨rfl, hc2⟩
  have HC2 := Lib.hid (below_then HC1.out hc2)
  clear hc2
  go_wp2_with fail
  go_ret
  exact ⟨rfl, HC2.out⟩

set_option maxHeartbeats 2000000 in
theorem uparts_0010b (p : Int) (hp : 0 ≤ p ∧ p ≤ 65535) (hd : ¬ p = 80) (w : World) (hE : Env11 w) :
    Calls Tryz.prog 8 #[.int .i64 p, .bool false, .bool true, .bool false, .bool false] w fun e w' => e = .returned (.bool true) ∧ Below w.heap.size w w' := by
  have HE := Lib.hid hE
  have HAW := Lib.hid (fun W (hW : Env11 W) => uawake_any W hW)
  have HDC := Lib.hid (fun W => udecimal_any p (by omega) W)
  have hml := Lib.itoa_length_le p (by omega) (by omega)
  obtain ⟨I, hI⟩ : ∃ I : ByteArray, I = ⟨(Lib.itoa p).toArray⟩ := ⟨_, rfl⟩
  have hIs : I.size ≤ 21 := by rw [hI, mk_size]; omega
  have hIl : I.data.toList = Lib.itoa p := by rw [hI]
  rw [← hI] at HDC
  have s0 := part_small ((⟨#[104, 116, 116, 112]⟩ : ByteArray) ++ (⟨#[58, 47, 47]⟩ : ByteArray)) (by simp <;> omega)
  have s1 := part_small (((⟨#[104, 116, 116, 112]⟩ : ByteArray) ++ (⟨#[58, 47, 47]⟩ : ByteArray)) ++ (⟨#[104, 46, 120, 58, 48, 48]⟩ : ByteArray)) (by simp <;> omega)
  have s2 := part_small ((((⟨#[104, 116, 116, 112]⟩ : ByteArray) ++ (⟨#[58, 47, 47]⟩ : ByteArray)) ++ (⟨#[104, 46, 120, 58, 48, 48]⟩ : ByteArray)) ++ I) (by simp [hIl] <;> omega)
  have s3 := part_small (((((⟨#[104, 116, 116, 112]⟩ : ByteArray) ++ (⟨#[58, 47, 47]⟩ : ByteArray)) ++ (⟨#[104, 46, 120, 58, 48, 48]⟩ : ByteArray)) ++ I) ++ (⟨#[47, 97]⟩ : ByteArray)) (by simp [hIl] <;> omega)
  have s4 := part_small ((((((⟨#[104, 116, 116, 112]⟩ : ByteArray) ++ (⟨#[58, 47, 47]⟩ : ByteArray)) ++ (⟨#[104, 46, 120, 58, 48, 48]⟩ : ByteArray)) ++ I) ++ (⟨#[47, 97]⟩ : ByteArray)) ++ (⟨#[63, 113]⟩ : ByteArray)) (by simp [hIl] <;> omega)
  have HX : Hid (((((((⟨#[104, 116, 116, 112]⟩ : ByteArray) ++ (⟨#[58, 47, 47]⟩ : ByteArray)) ++ (⟨#[104, 46, 120, 58, 48, 48]⟩ : ByteArray)) ++ I) ++ (⟨#[47, 97]⟩ : ByteArray)) ++ (⟨#[63, 113]⟩ : ByteArray)).data.toList = partsT false false true false p) := Lib.hid (by simp [hIl, partsT, httpL])
  have HU : Hid (partsU false false true false p = ⟨[104, 116, 116, 112], [], [], [104, 46, 120], p, [47, 97], true, [113], false, []⟩) := Lib.hid (by simp [partsU, httpL, hd])
  have HP : Hid (∀ W, Env11 W → Calls Tryz.prog 10 #[.string ((((((⟨#[104, 116, 116, 112]⟩ : ByteArray) ++ (⟨#[58, 47, 47]⟩ : ByteArray)) ++ (⟨#[104, 46, 120, 58, 48, 48]⟩ : ByteArray)) ++ I) ++ (⟨#[47, 97]⟩ : ByteArray)) ++ (⟨#[63, 113]⟩ : ByteArray))] W fun e w' => e = .returned (.tuple #[.agg #[.string ⟨#[104, 116, 116, 112]⟩, .string ⟨#[]⟩, .string ⟨#[]⟩, .string ⟨#[104, 46, 120]⟩, .int .i64 p, .string ⟨#[47, 97]⟩, .bool true, .string ⟨#[113]⟩, .bool false, .string ⟨#[]⟩], .int .i64 0]) ∧ Below W.heap.size W w') := Lib.hid (by
    intro W hW
    have := uparse_any ((((((⟨#[104, 116, 116, 112]⟩ : ByteArray) ++ (⟨#[58, 47, 47]⟩ : ByteArray)) ++ (⟨#[104, 46, 120, 58, 48, 48]⟩ : ByteArray)) ++ I) ++ (⟨#[47, 97]⟩ : ByteArray)) ++ (⟨#[63, 113]⟩ : ByteArray)) (by omega) W hW
    rw [HX.out, parts_url false false true false p (by omega), if_pos (by omega), HU.out] at this
    exact this)
  have HPT : Hid (∀ W, Calls Tryz.prog 17 #[.agg #[.string ⟨#[104, 116, 116, 112]⟩, .string ⟨#[]⟩, .string ⟨#[]⟩, .string ⟨#[104, 46, 120]⟩, .int .i64 p, .string ⟨#[47, 97]⟩, .bool true, .string ⟨#[113]⟩, .bool false, .string ⟨#[]⟩]] W fun e w' => e = .returned (.int .i64 p) ∧ Below W.heap.size W w') := Lib.hid (by
    intro W
    have := uPortU_any ⟨#[104, 116, 116, 112]⟩ ⟨#[]⟩ ⟨#[]⟩ ⟨#[104, 46, 120]⟩ ⟨#[47, 97]⟩ ⟨#[113]⟩ ⟨#[]⟩ p true false W
    rw [if_neg (by omega)] at this
    exact this)
  clear hI hIl hml hE
  go_enter Tryz.func8, Tryz.ntmps8
  go_wp2_with fail
  refine (HDC.out _).mono ?_
  rintro e w1 ⟨rfl, hb1⟩
  have HB1 := Lib.hid hb1
  clear hb1
  go_wp2_with fail
  refine (HP.out _ (env_below HE.out HB1.out)).mono ?_
  rintro e w2 ⟨rfl, hb2⟩
  have HB4 := Lib.hid (below_more (below_more (below_then HB1.out hb2) (.cells #[.string ⟨#[104, 116, 116, 112]⟩, .string ⟨#[]⟩, .string ⟨#[]⟩, .string ⟨#[104, 46, 120]⟩, .int .i64 p, .string ⟨#[47, 97]⟩, .bool true, .string ⟨#[113]⟩, .bool false, .string ⟨#[]⟩] 24)) (.cells #[.string ⟨#[104, 116, 116, 112]⟩, .string ⟨#[]⟩, .string ⟨#[]⟩, .string ⟨#[104, 46, 120]⟩, .int .i64 p, .string ⟨#[47, 97]⟩, .bool true, .string ⟨#[113]⟩, .bool false, .string ⟨#[]⟩] 24))
  have HS4 := Lib.hid (Rw.more (Rw.alloc (base := 0) w2 24 #[.string ⟨#[104, 116, 116, 112]⟩, .string ⟨#[]⟩, .string ⟨#[]⟩, .string ⟨#[104, 46, 120]⟩, .int .i64 p, .string ⟨#[47, 97]⟩, .bool true, .string ⟨#[113]⟩, .bool false, .string ⟨#[]⟩] (Nat.zero_le _)) (.cells #[.string ⟨#[104, 116, 116, 112]⟩, .string ⟨#[]⟩, .string ⟨#[]⟩, .string ⟨#[104, 46, 120]⟩, .int .i64 p, .string ⟨#[47, 97]⟩, .bool true, .string ⟨#[113]⟩, .bool false, .string ⟨#[]⟩] 24))
  have HR4 := Lib.hid (Rw.alloc (base := 0) (w2.alloc (.cells #[.string ⟨#[104, 116, 116, 112]⟩, .string ⟨#[]⟩, .string ⟨#[]⟩, .string ⟨#[104, 46, 120]⟩, .int .i64 p, .string ⟨#[47, 97]⟩, .bool true, .string ⟨#[113]⟩, .bool false, .string ⟨#[]⟩] 24)) 24 #[.string ⟨#[104, 116, 116, 112]⟩, .string ⟨#[]⟩, .string ⟨#[]⟩, .string ⟨#[104, 46, 120]⟩, .int .i64 p, .string ⟨#[47, 97]⟩, .bool true, .string ⟨#[113]⟩, .bool false, .string ⟨#[]⟩] (Nat.zero_le _))
  clear hb2
  have ka0 := Rw.cell HS4.out (j := 0) rfl
  have kb0 := Rw.cell HR4.out (j := 0) rfl
  have ka1 := Rw.cell HS4.out (j := 1) rfl
  have kb1 := Rw.cell HR4.out (j := 1) rfl
  have ka2 := Rw.cell HS4.out (j := 2) rfl
  have kb2 := Rw.cell HR4.out (j := 2) rfl
  have ka3 := Rw.cell HS4.out (j := 3) rfl
  have kb3 := Rw.cell HR4.out (j := 3) rfl
  have ka4 := Rw.cell HS4.out (j := 4) rfl
  have kb4 := Rw.cell HR4.out (j := 4) rfl
  have ka5 := Rw.cell HS4.out (j := 5) rfl
  have kb5 := Rw.cell HR4.out (j := 5) rfl
  have ka6 := Rw.cell HS4.out (j := 6) rfl
  have kb6 := Rw.cell HR4.out (j := 6) rfl
  have ka7 := Rw.cell HS4.out (j := 7) rfl
  have kb7 := Rw.cell HR4.out (j := 7) rfl
  have ka8 := Rw.cell HS4.out (j := 8) rfl
  have kb8 := Rw.cell HR4.out (j := 8) rfl
  have ka9 := Rw.cell HS4.out (j := 9) rfl
  have kb9 := Rw.cell HR4.out (j := 9) rfl
  go_wp2_with fail
  refine (HPT.out _).mono ?_
  rintro e z1 ⟨rfl, hc1⟩
  have HC1 := Lib.hid (below_then HB4.out hc1)
  clear hc1
  go_wp2_with fail
  refine (HAW.out _ (env_below HE.out HC1.out)).mono ?_
  rintro e z2 ⟨rfl, hc2⟩
  have HC2 := Lib.hid (below_then HC1.out hc2)
  clear hc2
  go_wp2_with fail
  go_ret
  exact ⟨rfl, HC2.out⟩

set_option maxHeartbeats 2000000 in
theorem uparts_0010c (p : Int) (hp : 65535 < p ∧ p ≤ 70000) (w : World) (hE : Env11 w) :
    Calls Tryz.prog 8 #[.int .i64 p, .bool false, .bool true, .bool false, .bool false] w fun e w' => e = .returned (.bool true) ∧ Below w.heap.size w w' := by
  have HE := Lib.hid hE
  have HAW := Lib.hid (fun W (hW : Env11 W) => uawake_any W hW)
  have HDC := Lib.hid (fun W => udecimal_any p (by omega) W)
  have hml := Lib.itoa_length_le p (by omega) (by omega)
  obtain ⟨I, hI⟩ : ∃ I : ByteArray, I = ⟨(Lib.itoa p).toArray⟩ := ⟨_, rfl⟩
  have hIs : I.size ≤ 21 := by rw [hI, mk_size]; omega
  have hIl : I.data.toList = Lib.itoa p := by rw [hI]
  rw [← hI] at HDC
  have s0 := part_small ((⟨#[104, 116, 116, 112]⟩ : ByteArray) ++ (⟨#[58, 47, 47]⟩ : ByteArray)) (by simp <;> omega)
  have s1 := part_small (((⟨#[104, 116, 116, 112]⟩ : ByteArray) ++ (⟨#[58, 47, 47]⟩ : ByteArray)) ++ (⟨#[104, 46, 120, 58, 48, 48]⟩ : ByteArray)) (by simp <;> omega)
  have s2 := part_small ((((⟨#[104, 116, 116, 112]⟩ : ByteArray) ++ (⟨#[58, 47, 47]⟩ : ByteArray)) ++ (⟨#[104, 46, 120, 58, 48, 48]⟩ : ByteArray)) ++ I) (by simp [hIl] <;> omega)
  have s3 := part_small (((((⟨#[104, 116, 116, 112]⟩ : ByteArray) ++ (⟨#[58, 47, 47]⟩ : ByteArray)) ++ (⟨#[104, 46, 120, 58, 48, 48]⟩ : ByteArray)) ++ I) ++ (⟨#[47, 97]⟩ : ByteArray)) (by simp [hIl] <;> omega)
  have s4 := part_small ((((((⟨#[104, 116, 116, 112]⟩ : ByteArray) ++ (⟨#[58, 47, 47]⟩ : ByteArray)) ++ (⟨#[104, 46, 120, 58, 48, 48]⟩ : ByteArray)) ++ I) ++ (⟨#[47, 97]⟩ : ByteArray)) ++ (⟨#[63, 113]⟩ : ByteArray)) (by simp [hIl] <;> omega)
  have HX : Hid (((((((⟨#[104, 116, 116, 112]⟩ : ByteArray) ++ (⟨#[58, 47, 47]⟩ : ByteArray)) ++ (⟨#[104, 46, 120, 58, 48, 48]⟩ : ByteArray)) ++ I) ++ (⟨#[47, 97]⟩ : ByteArray)) ++ (⟨#[63, 113]⟩ : ByteArray)).data.toList = partsT false false true false p) := Lib.hid (by simp [hIl, partsT, httpL])
  have HP : Hid (∀ W, Env11 W → Calls Tryz.prog 10 #[.string ((((((⟨#[104, 116, 116, 112]⟩ : ByteArray) ++ (⟨#[58, 47, 47]⟩ : ByteArray)) ++ (⟨#[104, 46, 120, 58, 48, 48]⟩ : ByteArray)) ++ I) ++ (⟨#[47, 97]⟩ : ByteArray)) ++ (⟨#[63, 113]⟩ : ByteArray))] W fun e w' => e = .returned (.tuple #[.agg #[.string ⟨#[]⟩, .string ⟨#[]⟩, .string ⟨#[]⟩, .string ⟨#[]⟩, .int .i64 0, .string ⟨#[]⟩, .bool false, .string ⟨#[]⟩, .bool false, .string ⟨#[]⟩], .int .i64 8]) ∧ Below W.heap.size W w') := Lib.hid (by
    intro W hW
    have := uparse_any ((((((⟨#[104, 116, 116, 112]⟩ : ByteArray) ++ (⟨#[58, 47, 47]⟩ : ByteArray)) ++ (⟨#[104, 46, 120, 58, 48, 48]⟩ : ByteArray)) ++ I) ++ (⟨#[47, 97]⟩ : ByteArray)) ++ (⟨#[63, 113]⟩ : ByteArray)) (by omega) W hW
    rw [HX.out, parts_url false false true false p (by omega), if_neg (by omega)] at this
    exact this)
  clear hI hIl hml hE
  go_enter Tryz.func8, Tryz.ntmps8
  go_wp2_with fail
  refine (HDC.out _).mono ?_
  rintro e w1 ⟨rfl, hb1⟩
  have HB1 := Lib.hid hb1
  clear hb1
  go_wp2_with fail
  refine (HP.out _ (env_below HE.out HB1.out)).mono ?_
  rintro e w2 ⟨rfl, hb2⟩
  have HB2 := Lib.hid (below_more (below_then HB1.out hb2) (.cells #[.string ⟨#[]⟩, .string ⟨#[]⟩, .string ⟨#[]⟩, .string ⟨#[]⟩, .int .i64 0, .string ⟨#[]⟩, .bool false, .string ⟨#[]⟩, .bool false, .string ⟨#[]⟩] 24))
  clear hb2
  go_wp2_with fail
  refine (HAW.out _ (env_below HE.out HB2.out)).mono ?_
  rintro e w3 ⟨rfl, hb3⟩
  have HB3 := Lib.hid (below_then HB2.out hb3)
  clear hb3
  go_wp2_with fail
  go_ret
  exact ⟨rfl, HB3.out⟩

set_option maxHeartbeats 2000000 in
theorem uparts_0011a (w : World) (hE : Env11 w) :
    Calls Tryz.prog 8 #[.int .i64 80, .bool false, .bool true, .bool true, .bool false] w fun e w' => e = .returned (.bool true) ∧ Below w.heap.size w w' := by
  have HE := Lib.hid hE
  have HAW := Lib.hid (fun W (hW : Env11 W) => uawake_any W hW)
  have HDC := Lib.hid (fun W => udecimal_any 80 (by omega) W)
  have hml := Lib.itoa_length_le 80 (by omega) (by omega)
  obtain ⟨I, hI⟩ : ∃ I : ByteArray, I = ⟨(Lib.itoa 80).toArray⟩ := ⟨_, rfl⟩
  have hIs : I.size ≤ 21 := by rw [hI, mk_size]; omega
  have hIl : I.data.toList = Lib.itoa 80 := by rw [hI]
  rw [← hI] at HDC
  have s0 := part_small ((⟨#[104, 116, 116, 112]⟩ : ByteArray) ++ (⟨#[58, 47, 47]⟩ : ByteArray)) (by simp <;> omega)
  have s1 := part_small (((⟨#[104, 116, 116, 112]⟩ : ByteArray) ++ (⟨#[58, 47, 47]⟩ : ByteArray)) ++ (⟨#[104, 46, 120, 58, 48, 48]⟩ : ByteArray)) (by simp <;> omega)
  have s2 := part_small ((((⟨#[104, 116, 116, 112]⟩ : ByteArray) ++ (⟨#[58, 47, 47]⟩ : ByteArray)) ++ (⟨#[104, 46, 120, 58, 48, 48]⟩ : ByteArray)) ++ I) (by simp [hIl] <;> omega)
  have s3 := part_small (((((⟨#[104, 116, 116, 112]⟩ : ByteArray) ++ (⟨#[58, 47, 47]⟩ : ByteArray)) ++ (⟨#[104, 46, 120, 58, 48, 48]⟩ : ByteArray)) ++ I) ++ (⟨#[47, 97]⟩ : ByteArray)) (by simp [hIl] <;> omega)
  have s4 := part_small ((((((⟨#[104, 116, 116, 112]⟩ : ByteArray) ++ (⟨#[58, 47, 47]⟩ : ByteArray)) ++ (⟨#[104, 46, 120, 58, 48, 48]⟩ : ByteArray)) ++ I) ++ (⟨#[47, 97]⟩ : ByteArray)) ++ (⟨#[63, 113]⟩ : ByteArray)) (by simp [hIl] <;> omega)
  have s5 := part_small (((((((⟨#[104, 116, 116, 112]⟩ : ByteArray) ++ (⟨#[58, 47, 47]⟩ : ByteArray)) ++ (⟨#[104, 46, 120, 58, 48, 48]⟩ : ByteArray)) ++ I) ++ (⟨#[47, 97]⟩ : ByteArray)) ++ (⟨#[63, 113]⟩ : ByteArray)) ++ (⟨#[35, 102]⟩ : ByteArray)) (by simp [hIl] <;> omega)
  have HX : Hid ((((((((⟨#[104, 116, 116, 112]⟩ : ByteArray) ++ (⟨#[58, 47, 47]⟩ : ByteArray)) ++ (⟨#[104, 46, 120, 58, 48, 48]⟩ : ByteArray)) ++ I) ++ (⟨#[47, 97]⟩ : ByteArray)) ++ (⟨#[63, 113]⟩ : ByteArray)) ++ (⟨#[35, 102]⟩ : ByteArray)).data.toList = partsT false false true true 80) := Lib.hid (by simp [hIl, partsT, httpL])
  have HU : Hid (partsU false false true true 80 = ⟨[104, 116, 116, 112], [], [], [104, 46, 120], (-1), [47, 97], true, [113], true, [102]⟩) := Lib.hid (by simp [partsU, httpL])
  have HP : Hid (∀ W, Env11 W → Calls Tryz.prog 10 #[.string (((((((⟨#[104, 116, 116, 112]⟩ : ByteArray) ++ (⟨#[58, 47, 47]⟩ : ByteArray)) ++ (⟨#[104, 46, 120, 58, 48, 48]⟩ : ByteArray)) ++ I) ++ (⟨#[47, 97]⟩ : ByteArray)) ++ (⟨#[63, 113]⟩ : ByteArray)) ++ (⟨#[35, 102]⟩ : ByteArray))] W fun e w' => e = .returned (.tuple #[.agg #[.string ⟨#[104, 116, 116, 112]⟩, .string ⟨#[]⟩, .string ⟨#[]⟩, .string ⟨#[104, 46, 120]⟩, .int .i64 (-1), .string ⟨#[47, 97]⟩, .bool true, .string ⟨#[113]⟩, .bool true, .string ⟨#[102]⟩], .int .i64 0]) ∧ Below W.heap.size W w') := Lib.hid (by
    intro W hW
    have := uparse_any (((((((⟨#[104, 116, 116, 112]⟩ : ByteArray) ++ (⟨#[58, 47, 47]⟩ : ByteArray)) ++ (⟨#[104, 46, 120, 58, 48, 48]⟩ : ByteArray)) ++ I) ++ (⟨#[47, 97]⟩ : ByteArray)) ++ (⟨#[63, 113]⟩ : ByteArray)) ++ (⟨#[35, 102]⟩ : ByteArray)) (by omega) W hW
    rw [HX.out, parts_url false false true true 80 (by omega), if_pos (by omega), HU.out] at this
    exact this)
  have HPT : Hid (∀ W, Calls Tryz.prog 17 #[.agg #[.string ⟨#[104, 116, 116, 112]⟩, .string ⟨#[]⟩, .string ⟨#[]⟩, .string ⟨#[104, 46, 120]⟩, .int .i64 (-1), .string ⟨#[47, 97]⟩, .bool true, .string ⟨#[113]⟩, .bool true, .string ⟨#[102]⟩]] W fun e w' => e = .returned (.int .i64 80) ∧ Below W.heap.size W w') := Lib.hid (by
    intro W
    have := uPortU_any ⟨#[104, 116, 116, 112]⟩ ⟨#[]⟩ ⟨#[]⟩ ⟨#[104, 46, 120]⟩ ⟨#[47, 97]⟩ ⟨#[113]⟩ ⟨#[102]⟩ (-1) true true W
    exact this)
  clear hI hIl hml hE
  go_enter Tryz.func8, Tryz.ntmps8
  go_wp2_with fail
  refine (HDC.out _).mono ?_
  rintro e w1 ⟨rfl, hb1⟩
  have HB1 := Lib.hid hb1
  clear hb1
  go_wp2_with fail
  refine (HP.out _ (env_below HE.out HB1.out)).mono ?_
  rintro e w2 ⟨rfl, hb2⟩
  have HB4 := Lib.hid (below_more (below_more (below_then HB1.out hb2) (.cells #[.string ⟨#[104, 116, 116, 112]⟩, .string ⟨#[]⟩, .string ⟨#[]⟩, .string ⟨#[104, 46, 120]⟩, .int .i64 (-1), .string ⟨#[47, 97]⟩, .bool true, .string ⟨#[113]⟩, .bool true, .string ⟨#[102]⟩] 24)) (.cells #[.string ⟨#[104, 116, 116, 112]⟩, .string ⟨#[]⟩, .string ⟨#[]⟩, .string ⟨#[104, 46, 120]⟩, .int .i64 (-1), .string ⟨#[47, 97]⟩, .bool true, .string ⟨#[113]⟩, .bool true, .string ⟨#[102]⟩] 24))
  have HS4 := Lib.hid (Rw.more (Rw.alloc (base := 0) w2 24 #[.string ⟨#[104, 116, 116, 112]⟩, .string ⟨#[]⟩, .string ⟨#[]⟩, .string ⟨#[104, 46, 120]⟩, .int .i64 (-1), .string ⟨#[47, 97]⟩, .bool true, .string ⟨#[113]⟩, .bool true, .string ⟨#[102]⟩] (Nat.zero_le _)) (.cells #[.string ⟨#[104, 116, 116, 112]⟩, .string ⟨#[]⟩, .string ⟨#[]⟩, .string ⟨#[104, 46, 120]⟩, .int .i64 (-1), .string ⟨#[47, 97]⟩, .bool true, .string ⟨#[113]⟩, .bool true, .string ⟨#[102]⟩] 24))
  have HR4 := Lib.hid (Rw.alloc (base := 0) (w2.alloc (.cells #[.string ⟨#[104, 116, 116, 112]⟩, .string ⟨#[]⟩, .string ⟨#[]⟩, .string ⟨#[104, 46, 120]⟩, .int .i64 (-1), .string ⟨#[47, 97]⟩, .bool true, .string ⟨#[113]⟩, .bool true, .string ⟨#[102]⟩] 24)) 24 #[.string ⟨#[104, 116, 116, 112]⟩, .string ⟨#[]⟩, .string ⟨#[]⟩, .string ⟨#[104, 46, 120]⟩, .int .i64 (-1), .string ⟨#[47, 97]⟩, .bool true, .string ⟨#[113]⟩, .bool true, .string ⟨#[102]⟩] (Nat.zero_le _))
  clear hb2
  have ka0 := Rw.cell HS4.out (j := 0) rfl
  have kb0 := Rw.cell HR4.out (j := 0) rfl
  have ka1 := Rw.cell HS4.out (j := 1) rfl
  have kb1 := Rw.cell HR4.out (j := 1) rfl
  have ka2 := Rw.cell HS4.out (j := 2) rfl
  have kb2 := Rw.cell HR4.out (j := 2) rfl
  have ka3 := Rw.cell HS4.out (j := 3) rfl
  have kb3 := Rw.cell HR4.out (j := 3) rfl
  have ka4 := Rw.cell HS4.out (j := 4) rfl
  have kb4 := Rw.cell HR4.out (j := 4) rfl
  have ka5 := Rw.cell HS4.out (j := 5) rfl
  have kb5 := Rw.cell HR4.out (j := 5) rfl
  have ka6 := Rw.cell HS4.out (j := 6) rfl
  have kb6 := Rw.cell HR4.out (j := 6) rfl
  have ka7 := Rw.cell HS4.out (j := 7) rfl
  have kb7 := Rw.cell HR4.out (j := 7) rfl
  have ka8 := Rw.cell HS4.out (j := 8) rfl
  have kb8 := Rw.cell HR4.out (j := 8) rfl
  have ka9 := Rw.cell HS4.out (j := 9) rfl
  have kb9 := Rw.cell HR4.out (j := 9) rfl
  go_wp2_with fail
  refine (HPT.out _).mono ?_
  rintro e z1 ⟨rfl, hc1⟩
  have HC1 := Lib.hid (below_then HB4.out hc1)
  clear hc1
  go_wp2_with fail
  refine (HAW.out _ (env_below HE.out HC1.out)).mono ?_
  rintro e z2 ⟨rfl, hc2⟩
  have HC2 := Lib.hid (below_then HC1.out hc2)
  clear hc2
  go_wp2_with fail
  go_ret
  exact ⟨rfl, HC2.out⟩

set_option maxHeartbeats 2000000 in
theorem uparts_0011b (p : Int) (hp : 0 ≤ p ∧ p ≤ 65535) (hd : ¬ p = 80) (w : World) (hE : Env11 w) :
    Calls Tryz.prog 8 #[.int .i64 p, .bool false, .bool true, .bool true, .bool false] w fun e w' => e = .returned (.bool true) ∧ Below w.heap.size w w' := by
  have HE := Lib.hid hE
  have HAW := Lib.hid (fun W (hW : Env11 W) => uawake_any W hW)
  have HDC := Lib.hid (fun W => udecimal_any p (by omega) W)
  have hml := Lib.itoa_length_le p (by omega) (by omega)
  obtain ⟨I, hI⟩ : ∃ I : ByteArray, I = ⟨(Lib.itoa p).toArray⟩ := ⟨_, rfl⟩
  have hIs : I.size ≤ 21 := by rw [hI, mk_size]; omega
  have hIl : I.data.toList = Lib.itoa p := by rw [hI]
  rw [← hI] at HDC
  have s0 := part_small ((⟨#[104, 116, 116, 112]⟩ : ByteArray) ++ (⟨#[58, 47, 47]⟩ : ByteArray)) (by simp <;> omega)
  have s1 := part_small (((⟨#[104, 116, 116, 112]⟩ : ByteArray) ++ (⟨#[58, 47, 47]⟩ : ByteArray)) ++ (⟨#[104, 46, 120, 58, 48, 48]⟩ : ByteArray)) (by simp <;> omega)
  have s2 := part_small ((((⟨#[104, 116, 116, 112]⟩ : ByteArray) ++ (⟨#[58, 47, 47]⟩ : ByteArray)) ++ (⟨#[104, 46, 120, 58, 48, 48]⟩ : ByteArray)) ++ I) (by simp [hIl] <;> omega)
  have s3 := part_small (((((⟨#[104, 116, 116, 112]⟩ : ByteArray) ++ (⟨#[58, 47, 47]⟩ : ByteArray)) ++ (⟨#[104, 46, 120, 58, 48, 48]⟩ : ByteArray)) ++ I) ++ (⟨#[47, 97]⟩ : ByteArray)) (by simp [hIl] <;> omega)
  have s4 := part_small ((((((⟨#[104, 116, 116, 112]⟩ : ByteArray) ++ (⟨#[58, 47, 47]⟩ : ByteArray)) ++ (⟨#[104, 46, 120, 58, 48, 48]⟩ : ByteArray)) ++ I) ++ (⟨#[47, 97]⟩ : ByteArray)) ++ (⟨#[63, 113]⟩ : ByteArray)) (by simp [hIl] <;> omega)
  have s5 := part_small (((((((⟨#[104, 116, 116, 112]⟩ : ByteArray) ++ (⟨#[58, 47, 47]⟩ : ByteArray)) ++ (⟨#[104, 46, 120, 58, 48, 48]⟩ : ByteArray)) ++ I) ++ (⟨#[47, 97]⟩ : ByteArray)) ++ (⟨#[63, 113]⟩ : ByteArray)) ++ (⟨#[35, 102]⟩ : ByteArray)) (by simp [hIl] <;> omega)
  have HX : Hid ((((((((⟨#[104, 116, 116, 112]⟩ : ByteArray) ++ (⟨#[58, 47, 47]⟩ : ByteArray)) ++ (⟨#[104, 46, 120, 58, 48, 48]⟩ : ByteArray)) ++ I) ++ (⟨#[47, 97]⟩ : ByteArray)) ++ (⟨#[63, 113]⟩ : ByteArray)) ++ (⟨#[35, 102]⟩ : ByteArray)).data.toList = partsT false false true true p) := Lib.hid (by simp [hIl, partsT, httpL])
  have HU : Hid (partsU false false true true p = ⟨[104, 116, 116, 112], [], [], [104, 46, 120], p, [47, 97], true, [113], true, [102]⟩) := Lib.hid (by simp [partsU, httpL, hd])
  have HP : Hid (∀ W, Env11 W → Calls Tryz.prog 10 #[.string (((((((⟨#[104, 116, 116, 112]⟩ : ByteArray) ++ (⟨#[58, 47, 47]⟩ : ByteArray)) ++ (⟨#[104, 46, 120, 58, 48, 48]⟩ : ByteArray)) ++ I) ++ (⟨#[47, 97]⟩ : ByteArray)) ++ (⟨#[63, 113]⟩ : ByteArray)) ++ (⟨#[35, 102]⟩ : ByteArray))] W fun e w' => e = .returned (.tuple #[.agg #[.string ⟨#[104, 116, 116, 112]⟩, .string ⟨#[]⟩, .string ⟨#[]⟩, .string ⟨#[104, 46, 120]⟩, .int .i64 p, .string ⟨#[47, 97]⟩, .bool true, .string ⟨#[113]⟩, .bool true, .string ⟨#[102]⟩], .int .i64 0]) ∧ Below W.heap.size W w') := Lib.hid (by
    intro W hW
    have := uparse_any (((((((⟨#[104, 116, 116, 112]⟩ : ByteArray) ++ (⟨#[58, 47, 47]⟩ : ByteArray)) ++ (⟨#[104, 46, 120, 58, 48, 48]⟩ : ByteArray)) ++ I) ++ (⟨#[47, 97]⟩ : ByteArray)) ++ (⟨#[63, 113]⟩ : ByteArray)) ++ (⟨#[35, 102]⟩ : ByteArray)) (by omega) W hW
    rw [HX.out, parts_url false false true true p (by omega), if_pos (by omega), HU.out] at this
    exact this)
  have HPT : Hid (∀ W, Calls Tryz.prog 17 #[.agg #[.string ⟨#[104, 116, 116, 112]⟩, .string ⟨#[]⟩, .string ⟨#[]⟩, .string ⟨#[104, 46, 120]⟩, .int .i64 p, .string ⟨#[47, 97]⟩, .bool true, .string ⟨#[113]⟩, .bool true, .string ⟨#[102]⟩]] W fun e w' => e = .returned (.int .i64 p) ∧ Below W.heap.size W w') := Lib.hid (by
    intro W
    have := uPortU_any ⟨#[104, 116, 116, 112]⟩ ⟨#[]⟩ ⟨#[]⟩ ⟨#[104, 46, 120]⟩ ⟨#[47, 97]⟩ ⟨#[113]⟩ ⟨#[102]⟩ p true true W
    rw [if_neg (by omega)] at this
    exact this)
  clear hI hIl hml hE
  go_enter Tryz.func8, Tryz.ntmps8
  go_wp2_with fail
  refine (HDC.out _).mono ?_
  rintro e w1 ⟨rfl, hb1⟩
  have HB1 := Lib.hid hb1
  clear hb1
  go_wp2_with fail
  refine (HP.out _ (env_below HE.out HB1.out)).mono ?_
  rintro e w2 ⟨rfl, hb2⟩
  have HB4 := Lib.hid (below_more (below_more (below_then HB1.out hb2) (.cells #[.string ⟨#[104, 116, 116, 112]⟩, .string ⟨#[]⟩, .string ⟨#[]⟩, .string ⟨#[104, 46, 120]⟩, .int .i64 p, .string ⟨#[47, 97]⟩, .bool true, .string ⟨#[113]⟩, .bool true, .string ⟨#[102]⟩] 24)) (.cells #[.string ⟨#[104, 116, 116, 112]⟩, .string ⟨#[]⟩, .string ⟨#[]⟩, .string ⟨#[104, 46, 120]⟩, .int .i64 p, .string ⟨#[47, 97]⟩, .bool true, .string ⟨#[113]⟩, .bool true, .string ⟨#[102]⟩] 24))
  have HS4 := Lib.hid (Rw.more (Rw.alloc (base := 0) w2 24 #[.string ⟨#[104, 116, 116, 112]⟩, .string ⟨#[]⟩, .string ⟨#[]⟩, .string ⟨#[104, 46, 120]⟩, .int .i64 p, .string ⟨#[47, 97]⟩, .bool true, .string ⟨#[113]⟩, .bool true, .string ⟨#[102]⟩] (Nat.zero_le _)) (.cells #[.string ⟨#[104, 116, 116, 112]⟩, .string ⟨#[]⟩, .string ⟨#[]⟩, .string ⟨#[104, 46, 120]⟩, .int .i64 p, .string ⟨#[47, 97]⟩, .bool true, .string ⟨#[113]⟩, .bool true, .string ⟨#[102]⟩] 24))
  have HR4 := Lib.hid (Rw.alloc (base := 0) (w2.alloc (.cells #[.string ⟨#[104, 116, 116, 112]⟩, .string ⟨#[]⟩, .string ⟨#[]⟩, .string ⟨#[104, 46, 120]⟩, .int .i64 p, .string ⟨#[47, 97]⟩, .bool true, .string ⟨#[113]⟩, .bool true, .string ⟨#[102]⟩] 24)) 24 #[.string ⟨#[104, 116, 116, 112]⟩, .string ⟨#[]⟩, .string ⟨#[]⟩, .string ⟨#[104, 46, 120]⟩, .int .i64 p, .string ⟨#[47, 97]⟩, .bool true, .string ⟨#[113]⟩, .bool true, .string ⟨#[102]⟩] (Nat.zero_le _))
  clear hb2
  have ka0 := Rw.cell HS4.out (j := 0) rfl
  have kb0 := Rw.cell HR4.out (j := 0) rfl
  have ka1 := Rw.cell HS4.out (j := 1) rfl
  have kb1 := Rw.cell HR4.out (j := 1) rfl
  have ka2 := Rw.cell HS4.out (j := 2) rfl
  have kb2 := Rw.cell HR4.out (j := 2) rfl
  have ka3 := Rw.cell HS4.out (j := 3) rfl
  have kb3 := Rw.cell HR4.out (j := 3) rfl
  have ka4 := Rw.cell HS4.out (j := 4) rfl
  have kb4 := Rw.cell HR4.out (j := 4) rfl
  have ka5 := Rw.cell HS4.out (j := 5) rfl
  have kb5 := Rw.cell HR4.out (j := 5) rfl
  have ka6 := Rw.cell HS4.out (j := 6) rfl
  have kb6 := Rw.cell HR4.out (j := 6) rfl
  have ka7 := Rw.cell HS4.out (j := 7) rfl
  have kb7 := Rw.cell HR4.out (j := 7) rfl
  have ka8 := Rw.cell HS4.out (j := 8) rfl
  have kb8 := Rw.cell HR4.out (j := 8) rfl
  have ka9 := Rw.cell HS4.out (j := 9) rfl
  have kb9 := Rw.cell HR4.out (j := 9) rfl
  go_wp2_with fail
  refine (HPT.out _).mono ?_
  rintro e z1 ⟨rfl, hc1⟩
  have HC1 := Lib.hid (below_then HB4.out hc1)
  clear hc1
  go_wp2_with fail
  refine (HAW.out _ (env_below HE.out HC1.out)).mono ?_
  rintro e z2 ⟨rfl, hc2⟩
  have HC2 := Lib.hid (below_then HC1.out hc2)
  clear hc2
  go_wp2_with fail
  go_ret
  exact ⟨rfl, HC2.out⟩

set_option maxHeartbeats 2000000 in
theorem uparts_0011c (p : Int) (hp : 65535 < p ∧ p ≤ 70000) (w : World) (hE : Env11 w) :
    Calls Tryz.prog 8 #[.int .i64 p, .bool false, .bool true, .bool true, .bool false] w fun e w' => e = .returned (.bool true) ∧ Below w.heap.size w w' := by
  have HE := Lib.hid hE
  have HAW := Lib.hid (fun W (hW : Env11 W) => uawake_any W hW)
  have HDC := Lib.hid (fun W => udecimal_any p (by omega) W)
  have hml := Lib.itoa_length_le p (by omega) (by omega)
  obtain ⟨I, hI⟩ : ∃ I : ByteArray, I = ⟨(Lib.itoa p).toArray⟩ := ⟨_, rfl⟩
  have hIs : I.size ≤ 21 := by rw [hI, mk_size]; omega
  have hIl : I.data.toList = Lib.itoa p := by rw [hI]
  rw [← hI] at HDC
  have s0 := part_small ((⟨#[104, 116, 116, 112]⟩ : ByteArray) ++ (⟨#[58, 47, 47]⟩ : ByteArray)) (by simp <;> omega)
  have s1 := part_small (((⟨#[104, 116, 116, 112]⟩ : ByteArray) ++ (⟨#[58, 47, 47]⟩ : ByteArray)) ++ (⟨#[104, 46, 120, 58, 48, 48]⟩ : ByteArray)) (by simp <;> omega)
  have s2 := part_small ((((⟨#[104, 116, 116, 112]⟩ : ByteArray) ++ (⟨#[58, 47, 47]⟩ : ByteArray)) ++ (⟨#[104, 46, 120, 58, 48, 48]⟩ : ByteArray)) ++ I) (by simp [hIl] <;> omega)
  have s3 := part_small (((((⟨#[104, 116, 116, 112]⟩ : ByteArray) ++ (⟨#[58, 47, 47]⟩ : ByteArray)) ++ (⟨#[104, 46, 120, 58, 48, 48]⟩ : ByteArray)) ++ I) ++ (⟨#[47, 97]⟩ : ByteArray)) (by simp [hIl] <;> omega)
  have s4 := part_small ((((((⟨#[104, 116, 116, 112]⟩ : ByteArray) ++ (⟨#[58, 47, 47]⟩ : ByteArray)) ++ (⟨#[104, 46, 120, 58, 48, 48]⟩ : ByteArray)) ++ I) ++ (⟨#[47, 97]⟩ : ByteArray)) ++ (⟨#[63, 113]⟩ : ByteArray)) (by simp [hIl] <;> omega)
  have s5 := part_small (((((((⟨#[104, 116, 116, 112]⟩ : ByteArray) ++ (⟨#[58, 47, 47]⟩ : ByteArray)) ++ (⟨#[104, 46, 120, 58, 48, 48]⟩ : ByteArray)) ++ I) ++ (⟨#[47, 97]⟩ : ByteArray)) ++ (⟨#[63, 113]⟩ : ByteArray)) ++ (⟨#[35, 102]⟩ : ByteArray)) (by simp [hIl] <;> omega)
  have HX : Hid ((((((((⟨#[104, 116, 116, 112]⟩ : ByteArray) ++ (⟨#[58, 47, 47]⟩ : ByteArray)) ++ (⟨#[104, 46, 120, 58, 48, 48]⟩ : ByteArray)) ++ I) ++ (⟨#[47, 97]⟩ : ByteArray)) ++ (⟨#[63, 113]⟩ : ByteArray)) ++ (⟨#[35, 102]⟩ : ByteArray)).data.toList = partsT false false true true p) := Lib.hid (by simp [hIl, partsT, httpL])
  have HP : Hid (∀ W, Env11 W → Calls Tryz.prog 10 #[.string (((((((⟨#[104, 116, 116, 112]⟩ : ByteArray) ++ (⟨#[58, 47, 47]⟩ : ByteArray)) ++ (⟨#[104, 46, 120, 58, 48, 48]⟩ : ByteArray)) ++ I) ++ (⟨#[47, 97]⟩ : ByteArray)) ++ (⟨#[63, 113]⟩ : ByteArray)) ++ (⟨#[35, 102]⟩ : ByteArray))] W fun e w' => e = .returned (.tuple #[.agg #[.string ⟨#[]⟩, .string ⟨#[]⟩, .string ⟨#[]⟩, .string ⟨#[]⟩, .int .i64 0, .string ⟨#[]⟩, .bool false, .string ⟨#[]⟩, .bool false, .string ⟨#[]⟩], .int .i64 8]) ∧ Below W.heap.size W w') := Lib.hid (by
    intro W hW
    have := uparse_any (((((((⟨#[104, 116, 116, 112]⟩ : ByteArray) ++ (⟨#[58, 47, 47]⟩ : ByteArray)) ++ (⟨#[104, 46, 120, 58, 48, 48]⟩ : ByteArray)) ++ I) ++ (⟨#[47, 97]⟩ : ByteArray)) ++ (⟨#[63, 113]⟩ : ByteArray)) ++ (⟨#[35, 102]⟩ : ByteArray)) (by omega) W hW
    rw [HX.out, parts_url false false true true p (by omega), if_neg (by omega)] at this
    exact this)
  clear hI hIl hml hE
  go_enter Tryz.func8, Tryz.ntmps8
  go_wp2_with fail
  refine (HDC.out _).mono ?_
  rintro e w1 ⟨rfl, hb1⟩
  have HB1 := Lib.hid hb1
  clear hb1
  go_wp2_with fail
  refine (HP.out _ (env_below HE.out HB1.out)).mono ?_
  rintro e w2 ⟨rfl, hb2⟩
  have HB2 := Lib.hid (below_more (below_then HB1.out hb2) (.cells #[.string ⟨#[]⟩, .string ⟨#[]⟩, .string ⟨#[]⟩, .string ⟨#[]⟩, .int .i64 0, .string ⟨#[]⟩, .bool false, .string ⟨#[]⟩, .bool false, .string ⟨#[]⟩] 24))
  clear hb2
  go_wp2_with fail
  refine (HAW.out _ (env_below HE.out HB2.out)).mono ?_
  rintro e w3 ⟨rfl, hb3⟩
  have HB3 := Lib.hid (below_then HB2.out hb3)
  clear hb3
  go_wp2_with fail
  go_ret
  exact ⟨rfl, HB3.out⟩

set_option maxHeartbeats 2000000 in
theorem uparts_0100a (w : World) (hE : Env11 w) :
    Calls Tryz.prog 8 #[.int .i64 80, .bool true, .bool false, .bool false, .bool false] w fun e w' => e = .returned (.bool true) ∧ Below w.heap.size w w' := by
  have HE := Lib.hid hE
  have HAW := Lib.hid (fun W (hW : Env11 W) => uawake_any W hW)
  have HDC := Lib.hid (fun W => udecimal_any 80 (by omega) W)
  have hml := Lib.itoa_length_le 80 (by omega) (by omega)
  obtain ⟨I, hI⟩ : ∃ I : ByteArray, I = ⟨(Lib.itoa 80).toArray⟩ := ⟨_, rfl⟩
  have hIs : I.size ≤ 21 := by rw [hI, mk_size]; omega
  have hIl : I.data.toList = Lib.itoa 80 := by rw [hI]
  rw [← hI] at HDC
  have s0 := part_small ((⟨#[104, 116, 116, 112]⟩ : ByteArray) ++ (⟨#[58, 47, 47]⟩ : ByteArray)) (by simp <;> omega)
  have s1 := part_small (((⟨#[104, 116, 116, 112]⟩ : ByteArray) ++ (⟨#[58, 47, 47]⟩ : ByteArray)) ++ (⟨#[117, 58, 112, 64]⟩ : ByteArray)) (by simp <;> omega)
  have s2 := part_small ((((⟨#[104, 116, 116, 112]⟩ : ByteArray) ++ (⟨#[58, 47, 47]⟩ : ByteArray)) ++ (⟨#[117, 58, 112, 64]⟩ : ByteArray)) ++ (⟨#[104, 46, 120, 58, 48, 48]⟩ : ByteArray)) (by simp <;> omega)
  have s3 := part_small (((((⟨#[104, 116, 116, 112]⟩ : ByteArray) ++ (⟨#[58, 47, 47]⟩ : ByteArray)) ++ (⟨#[117, 58, 112, 64]⟩ : ByteArray)) ++ (⟨#[104, 46, 120, 58, 48, 48]⟩ : ByteArray)) ++ I) (by simp [hIl] <;> omega)
  have s4 := part_small ((((((⟨#[104, 116, 116, 112]⟩ : ByteArray) ++ (⟨#[58, 47, 47]⟩ : ByteArray)) ++ (⟨#[117, 58, 112, 64]⟩ : ByteArray)) ++ (⟨#[104, 46, 120, 58, 48, 48]⟩ : ByteArray)) ++ I) ++ (⟨#[47, 97]⟩ : ByteArray)) (by simp [hIl] <;> omega)
  have HX : Hid (((((((⟨#[104, 116, 116, 112]⟩ : ByteArray) ++ (⟨#[58, 47, 47]⟩ : ByteArray)) ++ (⟨#[117, 58, 112, 64]⟩ : ByteArray)) ++ (⟨#[104, 46, 120, 58, 48, 48]⟩ : ByteArray)) ++ I) ++ (⟨#[47, 97]⟩ : ByteArray)).data.toList = partsT false true false false 80) := Lib.hid (by simp [hIl, partsT, httpL])
  have HU : Hid (partsU false true false false 80 = ⟨[104, 116, 116, 112], [117], [112], [104, 46, 120], (-1), [47, 97], false, [], false, []⟩) := Lib.hid (by simp [partsU, httpL])
  have HP : Hid (∀ W, Env11 W → Calls Tryz.prog 10 #[.string ((((((⟨#[104, 116, 116, 112]⟩ : ByteArray) ++ (⟨#[58, 47, 47]⟩ : ByteArray)) ++ (⟨#[117, 58, 112, 64]⟩ : ByteArray)) ++ (⟨#[104, 46, 120, 58, 48, 48]⟩ : ByteArray)) ++ I) ++ (⟨#[47, 97]⟩ : ByteArray))] W fun e w' => e = .returned (.tuple #[.agg #[.string ⟨#[104, 116, 116, 112]⟩, .string ⟨#[117]⟩, .string ⟨#[112]⟩, .string ⟨#[104, 46, 120]⟩, .int .i64 (-1), .string ⟨#[47, 97]⟩, .bool false, .string ⟨#[]⟩, .bool false, .string ⟨#[]⟩], .int .i64 0]) ∧ Below W.heap.size W w') := Lib.hid (by
    intro W hW
    have := uparse_any ((((((⟨#[104, 116, 116, 112]⟩ : ByteArray) ++ (⟨#[58, 47, 47]⟩ : ByteArray)) ++ (⟨#[117, 58, 112, 64]⟩ : ByteArray)) ++ (⟨#[104, 46, 120, 58, 48, 48]⟩ : ByteArray)) ++ I) ++ (⟨#[47, 97]⟩ : ByteArray)) (by omega) W hW
    rw [HX.out, parts_url false true false false 80 (by omega), if_pos (by omega), HU.out] at this
    exact this)
  have HPT : Hid (∀ W, Calls Tryz.prog 17 #[.agg #[.string ⟨#[104, 116, 116, 112]⟩, .string ⟨#[117]⟩, .string ⟨#[112]⟩, .string ⟨#[104, 46, 120]⟩, .int .i64 (-1), .string ⟨#[47, 97]⟩, .bool false, .string ⟨#[]⟩, .bool false, .string ⟨#[]⟩]] W fun e w' => e = .returned (.int .i64 80) ∧ Below W.heap.size W w') := Lib.hid (by
    intro W
    have := uPortU_any ⟨#[104, 116, 116, 112]⟩ ⟨#[117]⟩ ⟨#[112]⟩ ⟨#[104, 46, 120]⟩ ⟨#[47, 97]⟩ ⟨#[]⟩ ⟨#[]⟩ (-1) false false W
    exact this)
  clear hI hIl hml hE
  go_enter Tryz.func8, Tryz.ntmps8
  go_wp2_with fail
  refine (HDC.out _).mono ?_
  rintro e w1 ⟨rfl, hb1⟩
  have HB1 := Lib.hid hb1
  clear hb1
  go_wp2_with fail
  refine (HP.out _ (env_below HE.out HB1.out)).mono ?_
  rintro e w2 ⟨rfl, hb2⟩
  have HB4 := Lib.hid (below_more (below_more (below_then HB1.out hb2) (.cells #[.string ⟨#[104, 116, 116, 112]⟩, .string ⟨#[117]⟩, .string ⟨#[112]⟩, .string ⟨#[104, 46, 120]⟩, .int .i64 (-1), .string ⟨#[47, 97]⟩, .bool false, .string ⟨#[]⟩, .bool false, .string ⟨#[]⟩] 24)) (.cells #[.string ⟨#[104, 116, 116, 112]⟩, .string ⟨#[117]⟩, .string ⟨#[112]⟩, .string ⟨#[104, 46, 120]⟩, .int .i64 (-1), .string ⟨#[47, 97]⟩, .bool false, .string ⟨#[]⟩, .bool false, .string ⟨#[]⟩] 24))
  have HS4 := Lib.hid (Rw.more (Rw.alloc (base := 0) w2 24 #[.string ⟨#[104, 116, 116, 112]⟩, .string ⟨#[117]⟩, .string ⟨#[112]⟩, .string ⟨#[104, 46, 120]⟩, .int .i64 (-1), .string ⟨#[47, 97]⟩, .bool false, .string ⟨#[]⟩, .bool false, .string ⟨#[]⟩] (Nat.zero_le _)) (.cells #[.string ⟨#[104, 116, 116, 112]⟩, .string ⟨#[117]⟩, .string ⟨#[112]⟩, .string ⟨#[104, 46, 120]⟩, .int .i64 (-1), .string ⟨#[47, 97]⟩, .bool false, .string ⟨#[]⟩, .bool false, .string ⟨#[]⟩] 24))
  have HR4 := Lib.hid (Rw.alloc (base := 0) (w2.alloc (.cells #[.string ⟨#[104, 116, 116, 112]⟩, .string ⟨#[117]⟩, .string ⟨#[112]⟩, .string ⟨#[104, 46, 120]⟩, .int .i64 (-1), .string ⟨#[47, 97]⟩, .bool false, .string ⟨#[]⟩, .bool false, .string ⟨#[]⟩] 24)) 24 #[.string ⟨#[104, 116, 116, 112]⟩, .string ⟨#[117]⟩, .string ⟨#[112]⟩, .string ⟨#[104, 46, 120]⟩, .int .i64 (-1), .string ⟨#[47, 97]⟩, .bool false, .string ⟨#[]⟩, .bool false, .string ⟨#[]⟩] (Nat.zero_le _))
  clear hb2
  have ka0 := Rw.cell HS4.out (j := 0) rfl
  have kb0 := Rw.cell HR4.out (j := 0) rfl
  have ka1 := Rw.cell HS4.out (j := 1) rfl
  have kb1 := Rw.cell HR4.out (j := 1) rfl
  have ka2 := Rw.cell HS4.out (j := 2) rfl
  have kb2 := Rw.cell HR4.out (j := 2) rfl
  have ka3 := Rw.cell HS4.out (j := 3) rfl
  have kb3 := Rw.cell HR4.out (j := 3) rfl
  have ka4 := Rw.cell HS4.out (j := 4) rfl
  have kb4 := Rw.cell HR4.out (j := 4) rfl
  have ka5 := Rw.cell HS4.out (j := 5) rfl
  have kb5 := Rw.cell HR4.out (j := 5) rfl
  have ka6 := Rw.cell HS4.out (j := 6) rfl
  have kb6 := Rw.cell HR4.out (j := 6) rfl
  have ka7 := Rw.cell HS4.out (j := 7) rfl
  have kb7 := Rw.cell HR4.out (j := 7) rfl
  have ka8 := Rw.cell HS4.out (j := 8) rfl
  have kb8 := Rw.cell HR4.out (j := 8) rfl
  have ka9 := Rw.cell HS4.out (j := 9) rfl
  have kb9 := Rw.cell HR4.out (j := 9) rfl
  go_wp2_with fail
  refine (HPT.out _).mono ?_
  rintro e z1 ⟨rfl, hc1⟩
  have HC1 := Lib.hid (below_then HB4.out hc1)
  clear hc1
  go_wp2_with fail
  refine (HAW.out _ (env_below HE.out HC1.out)).mono ?_
  rintro e z2 ⟨rfl, hc2⟩
  have HC2 := Lib.hid (below_then HC1.out hc2)
  clear hc2
  go_wp2_with fail
  go_ret
  exact ⟨rfl, HC2.out⟩

set_option maxHeartbeats 2000000 in
theorem uparts_0100b (p : Int) (hp : 0 ≤ p ∧ p ≤ 65535) (hd : ¬ p = 80) (w : World) (hE : Env11 w) :
    Calls Tryz.prog 8 #[.int .i64 p, .bool true, .bool false, .bool false, .bool false] w fun e w' => e = .returned (.bool true) ∧ Below w.heap.size w w' := by
  have HE := Lib.hid hE
  have HAW := Lib.hid (fun W (hW : Env11 W) => uawake_any W hW)
  have HDC := Lib.hid (fun W => udecimal_any p (by omega) W)
  have hml := Lib.itoa_length_le p (by omega) (by omega)
  obtain ⟨I, hI⟩ : ∃ I : ByteArray, I = ⟨(Lib.itoa p).toArray⟩ := ⟨_, rfl⟩
  have hIs : I.size ≤ 21 := by rw [hI, mk_size]; omega
  have hIl : I.data.toList = Lib.itoa p := by rw [hI]
  rw [← hI] at HDC
  have s0 := part_small ((⟨#[104, 116, 116, 112]⟩ : ByteArray) ++ (⟨#[58, 47, 47]⟩ : ByteArray)) (by simp <;> omega)
  have s1 := part_small (((⟨#[104, 116, 116, 112]⟩ : ByteArray) ++ (⟨#[58, 47, 47]⟩ : ByteArray)) ++ (⟨#[117, 58, 112, 64]⟩ : ByteArray)) (by simp <;> omega)
  have s2 := part_small ((((⟨#[104, 116, 116, 112]⟩ : ByteArray) ++ (⟨#[58, 47, 47]⟩ : ByteArray)) ++ (⟨#[117, 58, 112, 64]⟩ : ByteArray)) ++ (⟨#[104, 46, 120, 58, 48, 48]⟩ : ByteArray)) (by simp <;> omega)
  have s3 := part_small (((((⟨#[104, 116, 116, 112]⟩ : ByteArray) ++ (⟨#[58, 47, 47]⟩ : ByteArray)) ++ (⟨#[117, 58, 112, 64]⟩ : ByteArray)) ++ (⟨#[104, 46, 120, 58, 48, 48]⟩ : ByteArray)) ++ I) (by simp [hIl] <;> omega)
  have s4 := part_small ((((((⟨#[104, 116, 116, 112]⟩ : ByteArray) ++ (⟨#[58, 47, 47]⟩ : ByteArray)) ++ (⟨#[117, 58, 112, 64]⟩ : ByteArray)) ++ (⟨#[104, 46, 120, 58, 48, 48]⟩ : ByteArray)) ++ I) ++ (⟨#[47, 97]⟩ : ByteArray)) (by simp [hIl] <;> omega)
  have HX : Hid (((((((⟨#[104, 116, 116, 112]⟩ : ByteArray) ++ (⟨#[58, 47, 47]⟩ : ByteArray)) ++ (⟨#[117, 58, 112, 64]⟩ : ByteArray)) ++ (⟨#[104, 46, 120, 58, 48, 48]⟩ : ByteArray)) ++ I) ++ (⟨#[47, 97]⟩ : ByteArray)).data.toList = partsT false true false false p) := Lib.hid (by simp [hIl, partsT, httpL])
  have HU : Hid (partsU false true false false p = ⟨[104, 116, 116, 112], [117], [112], [104, 46, 120], p, [47, 97], false, [], false, []⟩) := Lib.hid (by simp [partsU, httpL, hd])
  have HP : Hid (∀ W, Env11 W → Calls Tryz.prog 10 #[.string ((((((⟨#[104, 116, 116, 112]⟩ : ByteArray) ++ (⟨#[58, 47, 47]⟩ : ByteArray)) ++ (⟨#[117, 58, 112, 64]⟩ : ByteArray)) ++ (⟨#[104, 46, 120, 58, 48, 48]⟩ : ByteArray)) ++ I) ++ (⟨#[47, 97]⟩ : ByteArray))] W fun e w' => e = .returned (.tuple #[.agg #[.string ⟨#[104, 116, 116, 112]⟩, .string ⟨#[117]⟩, .string ⟨#[112]⟩, .string ⟨#[104, 46, 120]⟩, .int .i64 p, .string ⟨#[47, 97]⟩, .bool false, .string ⟨#[]⟩, .bool false, .string ⟨#[]⟩], .int .i64 0]) ∧ Below W.heap.size W w') := Lib.hid (by
    intro W hW
    have := uparse_any ((((((⟨#[104, 116, 116, 112]⟩ : ByteArray) ++ (⟨#[58, 47, 47]⟩ : ByteArray)) ++ (⟨#[117, 58, 112, 64]⟩ : ByteArray)) ++ (⟨#[104, 46, 120, 58, 48, 48]⟩ : ByteArray)) ++ I) ++ (⟨#[47, 97]⟩ : ByteArray)) (by omega) W hW
    rw [HX.out, parts_url false true false false p (by omega), if_pos (by omega), HU.out] at this
    exact this)
  have HPT : Hid (∀ W, Calls Tryz.prog 17 #[.agg #[.string ⟨#[104, 116, 116, 112]⟩, .string ⟨#[117]⟩, .string ⟨#[112]⟩, .string ⟨#[104, 46, 120]⟩, .int .i64 p, .string ⟨#[47, 97]⟩, .bool false, .string ⟨#[]⟩, .bool false, .string ⟨#[]⟩]] W fun e w' => e = .returned (.int .i64 p) ∧ Below W.heap.size W w') := Lib.hid (by
    intro W
    have := uPortU_any ⟨#[104, 116, 116, 112]⟩ ⟨#[117]⟩ ⟨#[112]⟩ ⟨#[104, 46, 120]⟩ ⟨#[47, 97]⟩ ⟨#[]⟩ ⟨#[]⟩ p false false W
    rw [if_neg (by omega)] at this
    exact this)
  clear hI hIl hml hE
  go_enter Tryz.func8, Tryz.ntmps8
  go_wp2_with fail
  refine (HDC.out _).mono ?_
  rintro e w1 ⟨rfl, hb1⟩
  have HB1 := Lib.hid hb1
  clear hb1
  go_wp2_with fail
  refine (HP.out _ (env_below HE.out HB1.out)).mono ?_
  rintro e w2 ⟨rfl, hb2⟩
  have HB4 := Lib.hid (below_more (below_more (below_then HB1.out hb2) (.cells #[.string ⟨#[104, 116, 116, 112]⟩, .string ⟨#[117]⟩, .string ⟨#[112]⟩, .string ⟨#[104, 46, 120]⟩, .int .i64 p, .string ⟨#[47, 97]⟩, .bool false, .string ⟨#[]⟩, .bool false, .string ⟨#[]⟩] 24)) (.cells #[.string ⟨#[104, 116, 116, 112]⟩, .string ⟨#[117]⟩, .string ⟨#[112]⟩, .string ⟨#[104, 46, 120]⟩, .int .i64 p, .string ⟨#[47, 97]⟩, .bool false, .string ⟨#[]⟩, .bool false, .string ⟨#[]⟩] 24))
  have HS4 := Lib.hid (Rw.more (Rw.alloc (base := 0) w2 24 #[.string ⟨#[104, 116, 116, 112]⟩, .string ⟨#[117]⟩, .string ⟨#[112]⟩, .string ⟨#[104, 46, 120]⟩, .int .i64 p, .string ⟨#[47, 97]⟩, .bool false, .string ⟨#[]⟩, .bool false, .string ⟨#[]⟩] (Nat.zero_le _)) (.cells #[.string ⟨#[104, 116, 116, 112]⟩, .string ⟨#[117]⟩, .string ⟨#[112]⟩, .string ⟨#[104, 46, 120]⟩, .int .i64 p, .string ⟨#[47, 97]⟩, .bool false, .string ⟨#[]⟩, .bool false, .string ⟨#[]⟩] 24))
  have HR4 := Lib.hid (Rw.alloc (base := 0) (w2.alloc (.cells #[.string ⟨#[104, 116, 116, 112]⟩, .string ⟨#[117]⟩, .string ⟨#[112]⟩, .string ⟨#[104, 46, 120]⟩, .int .i64 p, .string ⟨#[47, 97]⟩, .bool false, .string ⟨#[]⟩, .bool false, .string ⟨#[]⟩] 24)) 24 #[.string ⟨#[104, 116, 116, 112]⟩, .string ⟨#[117]⟩, .string ⟨#[112]⟩, .string ⟨#[104, 46, 120]⟩, .int .i64 p, .string ⟨#[47, 97]⟩, .bool false, .string ⟨#[]⟩, .bool false, .string ⟨#[]⟩] (Nat.zero_le _))
  clear hb2
  have ka0 := Rw.cell HS4.out (j := 0) rfl
  have kb0 := Rw.cell HR4.out (j := 0) rfl
  have ka1 := Rw.cell HS4.out (j := 1) rfl
  have kb1 := Rw.cell HR4.out (j := 1) rfl
  have ka2 := Rw.cell HS4.out (j := 2) rfl
  have kb2 := Rw.cell HR4.out (j := 2) rfl
  have ka3 := Rw.cell HS4.out (j := 3) rfl
  have kb3 := Rw.cell HR4.out (j := 3) rfl
  have ka4 := Rw.cell HS4.out (j := 4) rfl
  have kb4 := Rw.cell HR4.out (j := 4) rfl
  have ka5 := Rw.cell HS4.out (j := 5) rfl
  have kb5 := Rw.cell HR4.out (j := 5) rfl
  have ka6 := Rw.cell HS4.out (j := 6) rfl
  have kb6 := Rw.cell HR4.out (j := 6) rfl
  have ka7 := Rw.cell HS4.out (j := 7) rfl
  have kb7 := Rw.cell HR4.out (j := 7) rfl
  have ka8 := Rw.cell HS4.out (j := 8) rfl
  have kb8 := Rw.cell HR4.out (j := 8) rfl
  have ka9 := Rw.cell HS4.out (j := 9) rfl
  have kb9 := Rw.cell HR4.out (j := 9) rfl
  go_wp2_with fail
  refine (HPT.out _).mono ?_
  rintro e z1 ⟨rfl, hc1⟩
  have HC1 := Lib.hid (below_then HB4.out hc1)
  clear hc1
  go_wp2_with fail
  refine (HAW.out _ (env_below HE.out HC1.out)).mono ?_
  rintro e z2 ⟨rfl, hc2⟩
  have HC2 := Lib.hid (below_then HC1.out hc2)
  clear hc2
  go_wp2_with fail
  go_ret
  exact ⟨rfl, HC2.out⟩

set_option maxHeartbeats 2000000 in
theorem uparts_0100c (p : Int) (hp : 65535 < p ∧ p ≤ 70000) (w : World) (hE : Env11 w) :
    Calls Tryz.prog 8 #[.int .i64 p, .bool true, .bool false, .bool false, .bool false] w fun e w' => e = .returned (.bool true) ∧ Below w.heap.size w w' := by
  have HE := Lib.hid hE
  have HAW := Lib.hid (fun W (hW : Env11 W) => uawake_any W hW)
  have HDC := Lib.hid (fun W => udecimal_any p (by omega) W)
  have hml := Lib.itoa_length_le p (by omega) (by omega)
  obtain ⟨I, hI⟩ : ∃ I : ByteArray, I = ⟨(Lib.itoa p).toArray⟩ := ⟨_, rfl⟩
  have hIs : I.size ≤ 21 := by rw [hI, mk_size]; omega
  have hIl : I.data.toList = Lib.itoa p := by rw [hI]
  rw [← hI] at HDC
  have s0 := part_small ((⟨#[104, 116, 116, 112]⟩ : ByteArray) ++ (⟨#[58, 47, 47]⟩ : ByteArray)) (by simp <;> omega)
  have s1 := part_small (((⟨#[104, 116, 116, 112]⟩ : ByteArray) ++ (⟨#[58, 47, 47]⟩ : ByteArray)) ++ (⟨#[117, 58, 112, 64]⟩ : ByteArray)) (by simp <;> omega)
  have s2 := part_small ((((⟨#[104, 116, 116, 112]⟩ : ByteArray) ++ (⟨#[58, 47, 47]⟩ : ByteArray)) ++ (⟨#[117, 58, 112, 64]⟩ : ByteArray)) ++ (⟨#[104, 46, 120, 58, 48, 48]⟩ : ByteArray)) (by simp <;> omega)
  have s3 := part_small (((((⟨#[104, 116, 116, 112]⟩ : ByteArray) ++ (⟨#[58, 47, 47]⟩ : ByteArray)) ++ (⟨#[117, 58, 112, 64]⟩ : ByteArray)) ++ (⟨#[104, 46, 120, 58, 48, 48]⟩ : ByteArray)) ++ I) (by simp [hIl] <;> omega)
  have s4 := part_small ((((((⟨#[104, 116, 116, 112]⟩ : ByteArray) ++ (⟨#[58, 47, 47]⟩ : ByteArray)) ++ (⟨#[117, 58, 112, 64]⟩ : ByteArray)) ++ (⟨#[104, 46, 120, 58, 48, 48]⟩ : ByteArray)) ++ I) ++ (⟨#[47, 97]⟩ : ByteArray)) (by simp [hIl] <;> omega)
  have HX : Hid (((((((⟨#[104, 116, 116, 112]⟩ : ByteArray) ++ (⟨#[58, 47, 47]⟩ : ByteArray)) ++ (⟨#[117, 58, 112, 64]⟩ : ByteArray)) ++ (⟨#[104, 46, 120, 58, 48, 48]⟩ : ByteArray)) ++ I) ++ (⟨#[47, 97]⟩ : ByteArray)).data.toList = partsT false true false false p) := Lib.hid (by simp [hIl, partsT, httpL])
  have HP : Hid (∀ W, Env11 W → Calls Tryz.prog 10 #[.string ((((((⟨#[104, 116, 116, 112]⟩ : ByteArray) ++ (⟨#[58, 47, 47]⟩ : ByteArray)) ++ (⟨#[117, 58, 112, 64]⟩ : ByteArray)) ++ (⟨#[104, 46, 120, 58, 48, 48]⟩ : ByteArray)) ++ I) ++ (⟨#[47, 97]⟩ : ByteArray))] W fun e w' => e = .returned (.tuple #[.agg #[.string ⟨#[]⟩, .string ⟨#[]⟩, .string ⟨#[]⟩, .string ⟨#[]⟩, .int .i64 0, .string ⟨#[]⟩, .bool false, .string ⟨#[]⟩, .bool false, .string ⟨#[]⟩], .int .i64 8]) ∧ Below W.heap.size W w') := Lib.hid (by
    intro W hW
    have := uparse_any ((((((⟨#[104, 116, 116, 112]⟩ : ByteArray) ++ (⟨#[58, 47, 47]⟩ : ByteArray)) ++ (⟨#[117, 58, 112, 64]⟩ : ByteArray)) ++ (⟨#[104, 46, 120, 58, 48, 48]⟩ : ByteArray)) ++ I) ++ (⟨#[47, 97]⟩ : ByteArray)) (by omega) W hW
    rw [HX.out, parts_url false true false false p (by omega), if_neg (by omega)] at this
    exact this)
  clear hI hIl hml hE
  go_enter Tryz.func8, Tryz.ntmps8
  go_wp2_with fail
  refine (HDC.out _).mono ?_
  rintro e w1 ⟨rfl, hb1⟩
  have HB1 := Lib.hid hb1
  clear hb1
  go_wp2_with fail
  refine (HP.out _ (env_below HE.out HB1.out)).mono ?_
  rintro e w2 ⟨rfl, hb2⟩
  have HB2 := Lib.hid (below_more (below_then HB1.out hb2) (.cells #[.string ⟨#[]⟩, .string ⟨#[]⟩, .string ⟨#[]⟩, .string ⟨#[]⟩, .int .i64 0, .string ⟨#[]⟩, .bool false, .string ⟨#[]⟩, .bool false, .string ⟨#[]⟩] 24))
  clear hb2
  go_wp2_with fail
  refine (HAW.out _ (env_below HE.out HB2.out)).mono ?_
  rintro e w3 ⟨rfl, hb3⟩
  have HB3 := Lib.hid (below_then HB2.out hb3)
  clear hb3
  go_wp2_with fail
  go_ret
  exact ⟨rfl, HB3.out⟩

set_option maxHeartbeats 2000000 in
theorem uparts_0101a (w : World) (hE : Env11 w) :
    Calls Tryz.prog 8 #[.int .i64 80, .bool true, .bool false, .bool true, .bool false] w fun e w' => e = .returned (.bool true) ∧ Below w.heap.size w w' := by
  have HE := Lib.hid hE
  have HAW := Lib.hid (fun W (hW : Env11 W) => uawake_any W hW)
  have HDC := Lib.hid (fun W => udecimal_any 80 (by omega) W)
  have hml := Lib.itoa_length_le 80 (by omega) (by omega)
  obtain ⟨I, hI⟩ : ∃ I : ByteArray, I = ⟨(Lib.itoa 80).toArray⟩ := ⟨_, rfl⟩
  have hIs : I.size ≤ 21 := by rw [hI, mk_size]; omega
  have hIl : I.data.toList = Lib.itoa 80 := by rw [hI]
  rw [← hI] at HDC
  have s0 := part_small ((⟨#[104, 116, 116, 112]⟩ : ByteArray) ++ (⟨#[58, 47, 47]⟩ : ByteArray)) (by simp <;> omega)
  have s1 := part_small (((⟨#[104, 116, 116, 112]⟩ : ByteArray) ++ (⟨#[58, 47, 47]⟩ : ByteArray)) ++ (⟨#[117, 58, 112, 64]⟩ : ByteArray)) (by simp <;> omega)
  have s2 := part_small ((((⟨#[104, 116, 116, 112]⟩ : ByteArray) ++ (⟨#[58, 47, 47]⟩ : ByteArray)) ++ (⟨#[117, 58, 112, 64]⟩ : ByteArray)) ++ (⟨#[104, 46, 120, 58, 48, 48]⟩ : ByteArray)) (by simp <;> omega)
  have s3 := part_small (((((⟨#[104, 116, 116, 112]⟩ : ByteArray) ++ (⟨#[58, 47, 47]⟩ : ByteArray)) ++ (⟨#[117, 58, 112, 64]⟩ : ByteArray)) ++ (⟨#[104, 46, 120, 58, 48, 48]⟩ : ByteArray)) ++ I) (by simp [hIl] <;> omega)
  have s4 := part_small ((((((⟨#[104, 116, 116, 112]⟩ : ByteArray) ++ (⟨#[58, 47, 47]⟩ : ByteArray)) ++ (⟨#[117, 58, 112, 64]⟩ : ByteArray)) ++ (⟨#[104, 46, 120, 58, 48, 48]⟩ : ByteArray)) ++ I) ++ (⟨#[47, 97]⟩ : ByteArray)) (by simp [hIl] <;> omega)
  have s5 := part_small (((((((⟨#[104, 116, 116, 112]⟩ : ByteArray) ++ (⟨#[58, 47, 47]⟩ : ByteArray)) ++ (⟨#[117, 58, 112, 64]⟩ : ByteArray)) ++ (⟨#[104, 46, 120, 58, 48, 48]⟩ : ByteArray)) ++ I) ++ (⟨#[47, 97]⟩ : ByteArray)) ++ (⟨#[35, 102]⟩ : ByteArray)) (by simp [hIl] <;> omega)
  have HX : Hid ((((((((⟨#[104, 116, 116, 112]⟩ : ByteArray) ++ (⟨#[58, 47, 47]⟩ : ByteArray)) ++ (⟨#[117, 58, 112, 64]⟩ : ByteArray)) ++ (⟨#[104, 46, 120, 58, 48, 48]⟩ : ByteArray)) ++ I) ++ (⟨#[47, 97]⟩ : ByteArray)) ++ (⟨#[35, 102]⟩ : ByteArray)).data.toList = partsT false true false true 80) := Lib.hid (by simp [hIl, partsT, httpL])
  have HU : Hid (partsU false true false true 80 = ⟨[104, 116, 116, 112], [117], [112], [104, 46, 120], (-1), [47, 97], false, [], true, [102]⟩) := Lib.hid (by simp [partsU, httpL])
  have HP : Hid (∀ W, Env11 W → Calls Tryz.prog 10 #[.string (((((((⟨#[104, 116, 116, 112]⟩ : ByteArray) ++ (⟨#[58, 47, 47]⟩ : ByteArray)) ++ (⟨#[117, 58, 112, 64]⟩ : ByteArray)) ++ (⟨#[104, 46, 120, 58, 48, 48]⟩ : ByteArray)) ++ I) ++ (⟨#[47, 97]⟩ : ByteArray)) ++ (⟨#[35, 102]⟩ : ByteArray))] W fun e w' => e = .returned (.tuple #[.agg #[.string ⟨#[104, 116, 116, 112]⟩, .string ⟨#[117]⟩, .string ⟨#[112]⟩, .string ⟨#[104, 46, 120]⟩, .int .i64 (-1), .string ⟨#[47, 97]⟩, .bool false, .string ⟨#[]⟩, .bool true, .string ⟨#[102]⟩], .int .i64 0]) ∧ Below W.heap.size W w') := Lib.hid (by
    intro W hW
    have := uparse_any (((((((⟨#[104, 116, 116, 112]⟩ : ByteArray) ++ (⟨#[58, 47, 47]⟩ : ByteArray)) ++ (⟨#[117, 58, 112, 64]⟩ : ByteArray)) ++ (⟨#[104, 46, 120, 58, 48, 48]⟩ : ByteArray)) ++ I) ++ (⟨#[47, 97]⟩ : ByteArray)) ++ (⟨#[35, 102]⟩ : ByteArray)) (by omega) W hW
    rw [HX.out, parts_url false true false true 80 (by omega), if_pos (by omega), HU.out] at this
    exact this)
  have HPT : Hid (∀ W, Calls Tryz.prog 17 #[.agg #[.string ⟨#[104, 116, 116, 112]⟩, .string ⟨#[117]⟩, .string ⟨#[112]⟩, .string ⟨#[104, 46, 120]⟩, .int .i64 (-1), .string ⟨#[47, 97]⟩, .bool false, .string ⟨#[]⟩, .bool true, .string ⟨#[102]⟩]] W fun e w' => e = .returned (.int .i64 80) ∧ Below W.heap.size W w') := Lib.hid (by
    intro W
    have := uPortU_any ⟨#[104, 116, 116, 112]⟩ ⟨#[117]⟩ ⟨#[112]⟩ ⟨#[104, 46, 120]⟩ ⟨#[47, 97]⟩ ⟨#[]⟩ ⟨#[102]⟩ (-1) false true W
    exact this)
  clear hI hIl hml hE
  go_enter Tryz.func8, Tryz.ntmps8
  go_wp2_with fail
  refine (HDC.out _).mono ?_
  rintro e w1 ⟨rfl, hb1⟩
  have HB1 := Lib.hid hb1
  clear hb1
  go_wp2_with fail
  refine (HP.out _ (env_below HE.out HB1.out)).mono ?_
  rintro e w2 ⟨rfl, hb2⟩
  have HB4 := Lib.hid (below_more (below_more (below_then HB1.out hb2) (.cells #[.string ⟨#[104, 116, 116, 112]⟩, .string ⟨#[117]⟩, .string ⟨#[112]⟩, .string ⟨#[104, 46, 120]⟩, .int .i64 (-1), .string ⟨#[47, 97]⟩, .bool false, .string ⟨#[]⟩, .bool true, .string ⟨#[102]⟩] 24)) (.cells #[.string ⟨#[104, 116, 116, 112]⟩, .string ⟨#[117]⟩, .string ⟨#[112]⟩, .string ⟨#[104, 46, 120]⟩, .int .i64 (-1), .string ⟨#[47, 97]⟩, .bool false, .string ⟨#[]⟩, .bool true, .string ⟨#[102]⟩] 24))
  have HS4 := Lib.hid (Rw.more (Rw.alloc (base := 0) w2 24 #[.string ⟨#[104, 116, 116, 112]⟩, .string ⟨#[117]⟩, .string ⟨#[112]⟩, .string ⟨#[104, 46, 120]⟩, .int .i64 (-1), .string ⟨#[47, 97]⟩, .bool false, .string ⟨#[]⟩, .bool true, .string ⟨#[102]⟩] (Nat.zero_le _)) (.cells #[.string ⟨#[104, 116, 116, 112]⟩, .string ⟨#[117]⟩, .string ⟨#[112]⟩, .string ⟨#[104, 46, 120]⟩, .int .i64 (-1), .string ⟨#[47, 97]⟩, .bool false, .string ⟨#[]⟩, .bool true, .string ⟨#[102]⟩] 24))
  have HR4 := Lib.hid (Rw.alloc (base := 0) (w2.alloc (.cells #[.string ⟨#[104, 116, 116, 112]⟩, .string ⟨#[117]⟩, .string ⟨#[112]⟩, .string ⟨#[104, 46, 120]⟩, .int .i64 (-1), .string ⟨#[47, 97]⟩, .bool false, .string ⟨#[]⟩, .bool true, .string ⟨#[102]⟩] 24)) 24 #[.string ⟨#[104, 116, 116, 112]⟩, .string ⟨#[117]⟩, .string ⟨#[112]⟩, .string ⟨#[104, 46, 120]⟩, .int .i64 (-1), .string ⟨#[47, 97]⟩, .bool false, .string ⟨#[]⟩, .bool true, .string ⟨#[102]⟩] (Nat.zero_le _))
  clear hb2
  have ka0 := Rw.cell HS4.out (j := 0) rfl
  have kb0 := Rw.cell HR4.out (j := 0) rfl
  have ka1 := Rw.cell HS4.out (j := 1) rfl
  have kb1 := Rw.cell HR4.out (j := 1) rfl
  have ka2 := Rw.cell HS4.out (j := 2) rfl
  have kb2 := Rw.cell HR4.out (j := 2) rfl
  have ka3 := Rw.cell HS4.out (j := 3) rfl
  have kb3 := Rw.cell HR4.out (j := 3) rfl
  have ka4 := Rw.cell HS4.out (j := 4) rfl
  have kb4 := Rw.cell HR4.out (j := 4) rfl
  have ka5 := Rw.cell HS4.out (j := 5) rfl
  have kb5 := Rw.cell HR4.out (j := 5) rfl
  have ka6 := Rw.cell HS4.out (j := 6) rfl
  have kb6 := Rw.cell HR4.out (j := 6) rfl
  have ka7 := Rw.cell HS4.out (j := 7) rfl
  have kb7 := Rw.cell HR4.out (j := 7) rfl
  have ka8 := Rw.cell HS4.out (j := 8) rfl
  have kb8 := Rw.cell HR4.out (j := 8) rfl
  have ka9 := Rw.cell HS4.out (j := 9) rfl
  have kb9 := Rw.cell HR4.out (j := 9) rfl
  go_wp2_with fail
  refine (HPT.out _).mono ?_
  rintro e z1 ⟨rfl, hc1⟩
  have HC1 := Lib.hid (below_then HB4.out hc1)
  clear hc1
  go_wp2_with fail
  refine (HAW.out _ (env_below HE.out HC1.out)).mono ?_
  rintro e z2 ⟨rfl, hc2⟩
  have HC2 := Lib.hid (below_then HC1.out hc2)
  clear hc2
  go_wp2_with fail
  go_ret
  exact ⟨rfl, HC2.out⟩

set_option maxHeartbeats 2000000 in
theorem uparts_0101b (p : Int) (hp : 0 ≤ p ∧ p ≤ 65535) (hd : ¬ p = 80) (w : World) (hE : Env11 w) :
    Calls Tryz.prog 8 #[.int .i64 p, .bool true, .bool false, .bool true, .bool false] w fun e w' => e = .returned (.bool true) ∧ Below w.heap.size w w' := by
  have HE := Lib.hid hE
  have HAW := Lib.hid (fun W (hW : Env11 W) => uawake_any W hW)
  have HDC := Lib.hid (fun W => udecimal_any p (by omega) W)
  have hml := Lib.itoa_length_le p (by omega) (by omega)
  obtain ⟨I, hI⟩ : ∃ I : ByteArray, I = ⟨(Lib.itoa p).toArray⟩ := ⟨_, rfl⟩
  have hIs : I.size ≤ 21 := by rw [hI, mk_size]; omega
  have hIl : I.data.toList = Lib.itoa p := by rw [hI]
  rw [← hI] at HDC
  have s0 := part_small ((⟨#[104, 116, 116, 112]⟩ : ByteArray) ++ (⟨#[58, 47, 47]⟩ : ByteArray)) (by simp <;> omega)
  have s1 := part_small (((⟨#[104, 116, 116, 112]⟩ : ByteArray) ++ (⟨#[58, 47, 47]⟩ : ByteArray)) ++ (⟨#[117, 58, 112, 64]⟩ : ByteArray)) (by simp <;> omega)
  have s2 := part_small ((((⟨#[104, 116, 116, 112]⟩ : ByteArray) ++ (⟨#[58, 47, 47]⟩ : ByteArray)) ++ (⟨#[117, 58, 112, 64]⟩ : ByteArray)) ++ (⟨#[104, 46, 120, 58, 48, 48]⟩ : ByteArray)) (by simp <;> omega)
  have s3 := part_small (((((⟨#[104, 116, 116, 112]⟩ : ByteArray) ++ (⟨#[58, 47, 47]⟩ : ByteArray)) ++ (⟨#[117, 58, 112, 64]⟩ : ByteArray)) ++ (⟨#[104, 46, 120, 58, 48, 48]⟩ : ByteArray)) ++ I) (by simp [hIl] <;> omega)
  have s4 := part_small ((((((⟨#[104, 116, 116, 112]⟩ : ByteArray) ++ (⟨#[58, 47, 47]⟩ : ByteArray)) ++ (⟨#[117, 58, 112, 64]⟩ : ByteArray)) ++ (⟨#[104, 46, 120, 58, 48, 48]⟩ : ByteArray)) ++ I) ++ (⟨#[47, 97]⟩ : ByteArray)) (by simp [hIl] <;> omega)
  have s5 := part_small (((((((⟨#[104, 116, 116, 112]⟩ : ByteArray) ++ (⟨#[58, 47, 47]⟩ : ByteArray)) ++ (⟨#[117, 58, 112, 64]⟩ : ByteArray)) ++ (⟨#[104, 46, 120, 58, 48, 48]⟩ : ByteArray)) ++ I) ++ (⟨#[47, 97]⟩ : ByteArray)) ++ (⟨#[35, 102]⟩ : ByteArray)) (by simp [hIl] <;> omega)
  have HX : Hid ((((((((⟨#[104, 116, 116, 112]⟩ : ByteArray) ++ (⟨#[58, 47, 47]⟩ : ByteArray)) ++ (⟨#[117, 58, 112, 64]⟩ : ByteArray)) ++ (⟨#[104, 46, 120, 58, 48, 48]⟩ : ByteArray)) ++ I) ++ (⟨#[47, 97]⟩ : ByteArray)) ++ (⟨#[35, 102]⟩ : ByteArray)).data.toList = partsT false true false true p) := Lib.hid (by simp [hIl, partsT, httpL])
  have HU : Hid (partsU false true false true p = ⟨[104, 116, 116, 112], [117], [112], [104, 46, 120], p, [47, 97], false, [], true, [102]⟩) := Lib.hid (by simp [partsU, httpL, hd])
  have HP : Hid (∀ W, Env11 W → Calls Tryz.prog 10 #[.string (((((((⟨#[104, 116, 116, 112]⟩ : ByteArray) ++ (⟨#[58, 47, 47]⟩ : ByteArray)) ++ (⟨#[117, 58, 112, 64]⟩ : ByteArray)) ++ (⟨#[104, 46, 120, 58, 48, 48]⟩ : ByteArray)) ++ I) ++ (⟨#[47, 97]⟩ : ByteArray)) ++ (⟨#[35, 102]⟩ : ByteArray))] W fun e w' => e = .returned (.tuple #[.agg #[.string ⟨#[104, 116, 116, 112]⟩, .string ⟨#[117]⟩, .string ⟨#[112]⟩, .string ⟨#[104, 46, 120]⟩, .int .i64 p, .string ⟨#[47, 97]⟩, .bool false, .string ⟨#[]⟩, .bool true, .string ⟨#[102]⟩], .int .i64 0]) ∧ Below W.heap.size W w') := Lib.hid (by
    intro W hW
    have := uparse_any (((((((⟨#[104, 116, 116, 112]⟩ : ByteArray) ++ (⟨#[58, 47, 47]⟩ : ByteArray)) ++ (⟨#[117, 58, 112, 64]⟩ : ByteArray)) ++ (⟨#[104, 46, 120, 58, 48, 48]⟩ : ByteArray)) ++ I) ++ (⟨#[47, 97]⟩ : ByteArray)) ++ (⟨#[35, 102]⟩ : ByteArray)) (by omega) W hW
    rw [HX.out, parts_url false true false true p (by omega), if_pos (by omega), HU.out] at this
    exact this)
  have HPT : Hid (∀ W, Calls Tryz.prog 17 #[.agg #[.string ⟨#[104, 116, 116, 112]⟩, .string ⟨#[117]⟩, .string ⟨#[112]⟩, .string ⟨#[104, 46, 120]⟩, .int .i64 p, .string ⟨#[47, 97]⟩, .bool false, .string ⟨#[]⟩, .bool true, .string ⟨#[102]⟩]] W fun e w' => e = .returned (.int .i64 p) ∧ Below W.heap.size W w') := Lib.hid (by
    intro W
    have := uPortU_any ⟨#[104, 116, 116, 112]⟩ ⟨#[117]⟩ ⟨#[112]⟩ ⟨#[104, 46, 120]⟩ ⟨#[47, 97]⟩ ⟨#[]⟩ ⟨#[102]⟩ p false true W
    rw [if_neg (by omega)] at this
    exact this)
  clear hI hIl hml hE
  go_enter Tryz.func8, Tryz.ntmps8
  go_wp2_with fail
  refine (HDC.out _).mono ?_
  rintro e w1 ⟨rfl, hb1⟩
  have HB1 := Lib.hid hb1
  clear hb1
  go_wp2_with fail
  refine (HP.out _ (env_below HE.out HB1.out)).mono ?_
  rintro e w2 ⟨rfl, hb2⟩
  have HB4 := Lib.hid (below_more (below_more (below_then HB1.out hb2) (.cells #[.string ⟨#[104, 116, 116, 112]⟩, .string ⟨#[117]⟩, .string ⟨#[112]⟩, .string ⟨#[104, 46, 120]⟩, .int .i64 p, .string ⟨#[47, 97]⟩, .bool false, .string ⟨#[]⟩, .bool true, .string ⟨#[102]⟩] 24)) (.cells #[.string ⟨#[104, 116, 116, 112]⟩, .string ⟨#[117]⟩, .string ⟨#[112]⟩, .string ⟨#[104, 46, 120]⟩, .int .i64 p, .string ⟨#[47, 97]⟩, .bool false, .string ⟨#[]⟩, .bool true, .string ⟨#[102]⟩] 24))
  have HS4 := Lib.hid (Rw.more (Rw.alloc (base := 0) w2 24 #[.string ⟨#[104, 116, 116, 112]⟩, .string ⟨#[117]⟩, .string ⟨#[112]⟩, .string ⟨#[104, 46, 120]⟩, .int .i64 p, .string ⟨#[47, 97]⟩, .bool false, .string ⟨#[]⟩, .bool true, .string ⟨#[102]⟩] (Nat.zero_le _)) (.cells #[.string ⟨#[104, 116, 116, 112]⟩, .string ⟨#[117]⟩, .string ⟨#[112]⟩, .string ⟨#[104, 46, 120]⟩, .int .i64 p, .string ⟨#[47, 97]⟩, .bool false, .string ⟨#[]⟩, .bool true, .string ⟨#[102]⟩] 24))
  have HR4 := Lib.hid (Rw.alloc (base := 0) (w2.alloc (.cells #[.string ⟨#[104, 116, 116, 112]⟩, .string ⟨#[117]⟩, .string ⟨#[112]⟩, .string ⟨#[104, 46, 120]⟩, .int .i64 p, .string ⟨#[47, 97]⟩, .bool false, .string ⟨#[]⟩, .bool true, .string ⟨#[102]⟩] 24)) 24 #[.string ⟨#[104, 116, 116, 112]⟩, .string ⟨#[117]⟩, .string ⟨#[112]⟩, .string ⟨#[104, 46, 120]⟩, .int .i64 p, .string ⟨#[47, 97]⟩, .bool false, .string ⟨#[]⟩, .bool true, .string ⟨#[102]⟩] (Nat.zero_le _))
  clear hb2
  have ka0 := Rw.cell HS4.out (j := 0) rfl
  have kb0 := Rw.cell HR4.out (j := 0) rfl
  have ka1 := Rw.cell HS4.out (j := 1) rfl
  have kb1 := Rw.cell HR4.out (j := 1) rfl
  have ka2 := Rw.cell HS4.out (j := 2) rfl
  have kb2 := Rw.cell HR4.out (j := 2) rfl
  have ka3 := Rw.cell HS4.out (j := 3) rfl
  have kb3 := Rw.cell HR4.out (j := 3) rfl
  have ka4 := Rw.cell HS4.out (j := 4) rfl
  have kb4 := Rw.cell HR4.out (j := 4) rfl
  have ka5 := Rw.cell HS4.out (j := 5) rfl
  have kb5 := Rw.cell HR4.out (j := 5) rfl
  have ka6 := Rw.cell HS4.out (j := 6) rfl
  have kb6 := Rw.cell HR4.out (j := 6) rfl
  have ka7 := Rw.cell HS4.out (j := 7) rfl
  have kb7 := Rw.cell HR4.out (j := 7) rfl
  have ka8 := Rw.cell HS4.out (j := 8) rfl
  have kb8 := Rw.cell HR4.out (j := 8) rfl
  have ka9 := Rw.cell HS4.out (j := 9) rfl
  have kb9 := Rw.cell HR4.out (j := 9) rfl
  go_wp2_with fail
  refine (HPT.out _).mono ?_
  rintro e z1 ⟨rfl, hc1⟩
  have HC1 := Lib.hid (below_then HB4.out hc1)
  clear hc1
  go_wp2_with fail
  refine (HAW.out _ (env_below HE.out HC1.out)).mono ?_
  rintro e z2 ⟨rfl, hc2⟩
  have HC2 := Lib.hid (below_then HC1.out hc2)
  clear hc2
  go_wp2_with fail
  go_ret
  exact ⟨rfl, HC2.out⟩

set_option maxHeartbeats 2000000 in
theorem uparts_0101c (p : Int) (hp : 65535 < p ∧ p ≤ 70000) (w : World) (hE : Env11 w) :
    Calls Tryz.prog 8 #[.int .i64 p, .bool true, .bool false, .bool true, .bool false] w fun e w' => e = .returned (.bool true) ∧ Below w.heap.size w w' := by
  have HE := Lib.hid hE
  have HAW := Lib.hid (fun W (hW : Env11 W) => uawake_any W hW)
  have HDC := Lib.hid (fun W => udecimal_any p (by omega) W)
  have hml := Lib.itoa_length_le p (by omega) (by omega)
  obtain ⟨I, hI⟩ : ∃ I : ByteArray, I = ⟨(Lib.itoa p).toArray⟩ := ⟨_, rfl⟩
  have hIs : I.size ≤ 21 := by rw [hI, mk_size]; omega
  have hIl : I.data.toList = Lib.itoa p := by rw [hI]
  rw [← hI] at HDC
  have s0 := part_small ((⟨#[104, 116, 116, 112]⟩ : ByteArray) ++ (⟨#[58, 47, 47]⟩ : ByteArray)) (by simp <;> omega)
  have s1 := part_small (((⟨#[104, 116, 116, 112]⟩ : ByteArray) ++ (⟨#[58, 47, 47]⟩ : ByteArray)) ++ (⟨#[117, 58, 112, 64]⟩ : ByteArray)) (by simp <;> omega)
  have s2 := part_small ((((⟨#[104, 116, 116, 112]⟩ : ByteArray) ++ (⟨#[58, 47, 47]⟩ : ByteArray)) ++ (⟨#[117, 58, 112, 64]⟩ : ByteArray)) ++ (⟨#[104, 46, 120, 58, 48, 48]⟩ : ByteArray)) (by simp <;> omega)
  have s3 := part_small (((((⟨#[104, 116, 116, 112]⟩ : ByteArray) ++ (⟨#[58, 47, 47]⟩ : ByteArray)) ++ (⟨#[117, 58, 112, 64]⟩ : ByteArray)) ++ (⟨#[104, 46, 120, 58, 48, 48]⟩ : ByteArray)) ++ I) (by simp [hIl] <;> omega)
  have s4 := part_small ((((((⟨#[104, 116, 116, 112]⟩ : ByteArray) ++ (⟨#[58, 47, 47]⟩ : ByteArray)) ++ (⟨#[117, 58, 112, 64]⟩ : ByteArray)) ++ (⟨#[104, 46, 120, 58, 48, 48]⟩ : ByteArray)) ++ I) ++ (⟨#[47, 97]⟩ : ByteArray)) (by simp [hIl] <;> omega)
  have s5 := part_small (((((((⟨#[104, 116, 116, 112]⟩ : ByteArray) ++ (⟨#[58, 47, 47]⟩ : ByteArray)) ++ (⟨#[117, 58, 112, 64]⟩ : ByteArray)) ++ (⟨#[104, 46, 120, 58, 48, 48]⟩ : ByteArray)) ++ I) ++ (⟨#[47, 97]⟩ : ByteArray)) ++ (⟨#[35, 102]⟩ : ByteArray)) (by simp [hIl] <;> omega)
  have HX : Hid ((((((((⟨#[104, 116, 116, 112]⟩ : ByteArray) ++ (⟨#[58, 47, 47]⟩ : ByteArray)) ++ (⟨#[117, 58, 112, 64]⟩ : ByteArray)) ++ (⟨#[104, 46, 120, 58, 48, 48]⟩ : ByteArray)) ++ I) ++ (⟨#[47, 97]⟩ : ByteArray)) ++ (⟨#[35, 102]⟩ : ByteArray)).data.toList = partsT false true false true p) := Lib.hid (by simp [hIl, partsT, httpL])
  have HP : Hid (∀ W, Env11 W → Calls Tryz.prog 10 #[.string (((((((⟨#[104, 116, 116, 112]⟩ : ByteArray) ++ (⟨#[58, 47, 47]⟩ : ByteArray)) ++ (⟨#[117, 58, 112, 64]⟩ : ByteArray)) ++ (⟨#[104, 46, 120, 58, 48, 48]⟩ : ByteArray)) ++ I) ++ (⟨#[47, 97]⟩ : ByteArray)) ++ (⟨#[35, 102]⟩ : ByteArray))] W fun e w' => e = .returned (.tuple #[.agg #[.string ⟨#[]⟩, .string ⟨#[]⟩, .string ⟨#[]⟩, .string ⟨#[]⟩, .int .i64 0, .string ⟨#[]⟩, .bool false, .string ⟨#[]⟩, .bool false, .string ⟨#[]⟩], .int .i64 8]) ∧ Below W.heap.size W w') := Lib.hid (by
    intro W hW
    have := uparse_any (((((((⟨#[104, 116, 116, 112]⟩ : ByteArray) ++ (⟨#[58, 47, 47]⟩ : ByteArray)) ++ (⟨#[117, 58, 112, 64]⟩ : ByteArray)) ++ (⟨#[104, 46, 120, 58, 48, 48]⟩ : ByteArray)) ++ I) ++ (⟨#[47, 97]⟩ : ByteArray)) ++ (⟨#[35, 102]⟩ : ByteArray)) (by omega) W hW
    rw [HX.out, parts_url false true false true p (by omega), if_neg (by omega)] at this
    exact this)
  clear hI hIl hml hE
  go_enter Tryz.func8, Tryz.ntmps8
  go_wp2_with fail
  refine (HDC.out _).mono ?_
  rintro e w1 ⟨rfl, hb1⟩
  have HB1 := Lib.hid hb1
  clear hb1
  go_wp2_with fail
  refine (HP.out _ (env_below HE.out HB1.out)).mono ?_
  rintro e w2 ⟨rfl, hb2⟩
  have HB2 := Lib.hid (below_more (below_then HB1.out hb2) (.cells #[.string ⟨#[]⟩, .string ⟨#[]⟩, .string ⟨#[]⟩, .string ⟨#[]⟩, .int .i64 0, .string ⟨#[]⟩, .bool false, .string ⟨#[]⟩, .bool false, .string ⟨#[]⟩] 24))
  clear hb2
  go_wp2_with fail
  refine (HAW.out _ (env_below HE.out HB2.out)).mono ?_
  rintro e w3 ⟨rfl, hb3⟩
  have HB3 := Lib.hid (below_then HB2.out hb3)
  clear hb3
  go_wp2_with fail
  go_ret
  exact ⟨rfl, HB3.out⟩

set_option maxHeartbeats 2000000 in
theorem uparts_0110a (w : World) (hE : Env11 w) :
    Calls Tryz.prog 8 #[.int .i64 80, .bool true, .bool true, .bool false, .bool false] w fun e w' => e = .returned (.bool true) ∧ Below w.heap.size w w' := by
  have HE := Lib.hid hE
  have HAW := Lib.hid (fun W (hW : Env11 W) => uawake_any W hW)
  have HDC := Lib.hid (fun W => udecimal_any 80 (by omega) W)
  have hml := Lib.itoa_length_le 80 (by omega) (by omega)
  obtain ⟨I, hI⟩ : ∃ I : ByteArray, I = ⟨(Lib.itoa 80).toArray⟩ := ⟨_, rfl⟩
  have hIs : I.size ≤ 21 := by rw [hI, mk_size]; omega
  have hIl : I.data.toList = Lib.itoa 80 := by rw [hI]
  rw [← hI] at HDC
  have s0 := part_small ((⟨#[104, 116, 116, 112]⟩ : ByteArray) ++ (⟨#[58, 47, 47]⟩ : ByteArray)) (by simp <;> omega)
  have s1 := part_small (((⟨#[104, 116, 116, 112]⟩ : ByteArray) ++ (⟨#[58, 47, 47]⟩ : ByteArray)) ++ (⟨#[117, 58, 112, 64]⟩ : ByteArray)) (by simp <;> omega)
  have s2 := part_small ((((⟨#[104, 116, 116, 112]⟩ : ByteArray) ++ (⟨#[58, 47, 47]⟩ : ByteArray)) ++ (⟨#[117, 58, 112, 64]⟩ : ByteArray)) ++ (⟨#[104, 46, 120, 58, 48, 48]⟩ : ByteArray)) (by simp <;> omega)
  have s3 := part_small (((((⟨#[104, 116, 116, 112]⟩ : ByteArray) ++ (⟨#[58, 47, 47]⟩ : ByteArray)) ++ (⟨#[117, 58, 112, 64]⟩ : ByteArray)) ++ (⟨#[104, 46, 120, 58, 48, 48]⟩ : ByteArray)) ++ I) (by simp [hIl] <;> omega)
  have s4 := part_small ((((((⟨#[104, 116, 116, 112]⟩ : ByteArray) ++ (⟨#[58, 47, 47]⟩ : ByteArray)) ++ (⟨#[117, 58, 112, 64]⟩ : ByteArray)) ++ (⟨#[104, 46, 120, 58, 48, 48]⟩ : ByteArray)) ++ I) ++ (⟨#[47, 97]⟩ : ByteArray)) (by simp [hIl] <;> omega)
  have s5 := part_small (((((((⟨#[104, 116, 116, 112]⟩ : ByteArray) ++ (⟨#[58, 47, 47]⟩ : ByteArray)) ++ (⟨#[117, 58, 112, 64]⟩ : ByteArray)) ++ (⟨#[104, 46, 120, 58, 48, 48]⟩ : ByteArray)) ++ I) ++ (⟨#[47, 97]⟩ : ByteArray)) ++ (⟨#[63, 113]⟩ : ByteArray)) (by simp [hIl] <;> omega)
  have HX : Hid ((((((((⟨#[104, 116, 116, 112]⟩ : ByteArray) ++ (⟨#[58, 47, 47]⟩ : ByteArray)) ++ (⟨#[117, 58, 112, 64]⟩ : ByteArray)) ++ (⟨#[104, 46, 120, 58, 48, 48]⟩ : ByteArray)) ++ I) ++ (⟨#[47, 97]⟩ : ByteArray)) ++ (⟨#[63, 113]⟩ : ByteArray)).data.toList = partsT false true true false 80) := Lib.hid (by simp [hIl, partsT, httpL])
  have HU : Hid (partsU false true true false 80 = ⟨[104, 116, 116, 112], [117], [112], [104, 46, 120], (-1), [47, 97], true, [113], false, []⟩) := Lib.hid (by simp [partsU, httpL])
  have HP : Hid (∀ W, Env11 W → Calls Tryz.prog 10 #[.string (((((((⟨#[104, 116, 116, 112]⟩ : ByteArray) ++ (⟨#[58, 47, 47]⟩ : ByteArray)) ++ (⟨#[117, 58, 112, 64]⟩ : ByteArray)) ++ (⟨#[104, 46, 120, 58, 48, 48]⟩ : ByteArray)) ++ I) ++ (⟨#[47, 97]⟩ : ByteArray)) ++ (⟨#[63, 113]⟩ : ByteArray))] W fun e w' => e = .returned (.tuple #[.agg #[.string ⟨#[104, 116, 116, 112]⟩, .string ⟨#[117]⟩, .string ⟨#[112]⟩, .string ⟨#[104, 46, 120]⟩, .int .i64 (-1), .string ⟨#[47, 97]⟩, .bool true, .string ⟨#[113]⟩, .bool false, .string ⟨#[]⟩], .int .i64 0]) ∧ Below W.heap.size W w') := Lib.hid (by
    intro W hW
    have := uparse_any (((((((⟨#[104, 116, 116, 112]⟩ : ByteArray) ++ (⟨#[58, 47, 47]⟩ : ByteArray)) ++ (⟨#[117, 58, 112, 64]⟩ : ByteArray)) ++ (⟨#[104, 46, 120, 58, 48, 48]⟩ : ByteArray)) ++ I) ++ (⟨#[47, 97]⟩ : ByteArray)) ++ (⟨#[63, 113]⟩ : ByteArray)) (by omega) W hW
    rw [HX.out, parts_url false true true false 80 (by omega), if_pos (by omega), HU.out] at this
    exact this)
  have HPT : Hid (∀ W, Calls Tryz.prog 17 #[.agg #[.string ⟨#[104, 116, 116, 112]⟩, .string ⟨#[117]⟩, .string ⟨#[112]⟩, .string ⟨#[104, 46, 120]⟩, .int .i64 (-1), .string ⟨#[47, 97]⟩, .bool true, .string ⟨#[113]⟩, .bool false, .string ⟨#[]⟩]] W fun e w' => e = .returned (.int .i64 80) ∧ Below W.heap.size W w') := Lib.hid (by
    intro W
    have := uPortU_any ⟨#[104, 116, 116, 112]⟩ ⟨#[117]⟩ ⟨#[112]⟩ ⟨#[104, 46, 120]⟩ ⟨#[47, 97]⟩ ⟨#[113]⟩ ⟨#[]⟩ (-1) true false W
    exact this)
  clear hI hIl hml hE
  go_enter Tryz.func8, Tryz.ntmps8
  go_wp2_with fail
  refine (HDC.out _).mono ?_
  rintro e w1 ⟨rfl, hb1⟩
  have HB1 := Lib.hid hb1
  clear hb1
  go_wp2_with fail
  refine (HP.out _ (env_below HE.out HB1.out)).mono ?_
  rintro e w2 ⟨rfl, hb2⟩
  have HB4 := Lib.hid (below_more (below_more (below_then HB1.out hb2) (.cells #[.string ⟨#[104, 116, 116, 112]⟩, .string ⟨#[117]⟩, .string ⟨#[112]⟩, .string ⟨#[104, 46, 120]⟩, .int .i64 (-1), .string ⟨#[47, 97]⟩, .bool true, .string ⟨#[113]⟩, .bool false, .string ⟨#[]⟩] 24)) (.cells #[.string ⟨#[104, 116, 116, 112]⟩, .string ⟨#[117]⟩, .string ⟨#[112]⟩, .string ⟨#[104, 46, 120]⟩, .int .i64 (-1), .string ⟨#[47, 97]⟩, .bool true, .string ⟨#[113]⟩, .bool false, .string ⟨#[]⟩] 24))
  have HS4 := Lib.hid (Rw.more (Rw.alloc (base := 0) w2 24 #[.string ⟨#[104, 116, 116, 112]⟩, .string ⟨#[117]⟩, .string ⟨#[112]⟩, .string ⟨#[104, 46, 120]⟩, .int .i64 (-1), .string ⟨#[47, 97]⟩, .bool true, .string ⟨#[113]⟩, .bool false, .string ⟨#[]⟩] (Nat.zero_le _)) (.cells #[.string ⟨#[104, 116, 116, 112]⟩, .string ⟨#[117]⟩, .string ⟨#[112]⟩, .string ⟨#[104, 46, 120]⟩, .int .i64 (-1), .string ⟨#[47, 97]⟩, .bool true, .string ⟨#[113]⟩, .bool false, .string ⟨#[]⟩] 24))
  have HR4 := Lib.hid (Rw.alloc (base := 0) (w2.alloc (.cells #[.string ⟨#[104, 116, 116, 112]⟩, .string ⟨#[117]⟩, .string ⟨#[112]⟩, .string ⟨#[104, 46, 120]⟩, .int .i64 (-1), .string ⟨#[47, 97]⟩, .bool true, .string ⟨#[113]⟩, .bool false, .string ⟨#[]⟩] 24)) 24 #[.string ⟨#[104, 116, 116, 112]⟩, .string ⟨#[117]⟩, .string ⟨#[112]⟩, .string ⟨#[104, 46, 120]⟩, .int .i64 (-1), .string ⟨#[47, 97]⟩, .bool true, .string ⟨#[113]⟩, .bool false, .string ⟨#[]⟩] (Nat.zero_le _))
  clear hb2
  have ka0 := Rw.cell HS4.out (j := 0) rfl
  have kb0 := Rw.cell HR4.out (j := 0) rfl
  have ka1 := Rw.cell HS4.out (j := 1) rfl
  have kb1 := Rw.cell HR4.out (j := 1) rfl
  have ka2 := Rw.cell HS4.out (j := 2) rfl
  have kb2 := Rw.cell HR4.out (j := 2) rfl
  have ka3 := Rw.cell HS4.out (j := 3) rfl
  have kb3 := Rw.cell HR4.out (j := 3) rfl
  have ka4 := Rw.cell HS4.out (j := 4) rfl
  have kb4 := Rw.cell HR4.out (j := 4) rfl
  have ka5 := Rw.cell HS4.out (j := 5) rfl
  have kb5 := Rw.cell HR4.out (j := 5) rfl
  have ka6 := Rw.cell HS4.out (j := 6) rfl
  have kb6 := Rw.cell HR4.out (j := 6) rfl
  have ka7 := Rw.cell HS4.out (j := 7) rfl
  have kb7 := Rw.cell HR4.out (j := 7) rfl
  have ka8 := Rw.cell HS4.out (j := 8) rfl
  have kb8 := Rw.cell HR4.out (j := 8) rfl
  have ka9 := Rw.cell HS4.out (j := 9) rfl
  have kb9 := Rw.cell HR4.out (j := 9) rfl
  go_wp2_with fail
  refine (HPT.out _).mono ?_
  rintro e z1 ⟨rfl, hc1⟩
  have HC1 := Lib.hid (below_then HB4.out hc1)
  clear hc1
  go_wp2_with fail
  refine (HAW.out _ (env_below HE.out HC1.out)).mono ?_
  rintro e z2 ⟨rfl, hc2⟩
  have HC2 := Lib.hid (below_then HC1.out hc2)
  clear hc2
  go_wp2_with fail
  go_ret
  exact ⟨rfl, HC2.out⟩

set_option maxHeartbeats 2000000 in
theorem uparts_0110b (p : Int) (hp : 0 ≤ p ∧ p ≤ 65535) (hd : ¬ p = 80) (w : World) (hE : Env11 w) :
    Calls Tryz.prog 8 #[.int .i64 p, .bool true, .bool true, .bool false, .bool false] w fun e w' => e = .returned (.bool true) ∧ Below w.heap.size w w' := by
  have HE := Lib.hid hE
  have HAW := Lib.hid (fun W (hW : Env11 W) => uawake_any W hW)
  have HDC := Lib.hid (fun W => udecimal_any p (by omega) W)
  have hml := Lib.itoa_length_le p (by omega) (by omega)
  obtain ⟨I, hI⟩ : ∃ I : ByteArray, I = ⟨(Lib.itoa p).toArray⟩ := ⟨_, rfl⟩
  have hIs : I.size ≤ 21 := by rw [hI, mk_size]; omega
  have hIl : I.data.toList = Lib.itoa p := by rw [hI]
  rw [← hI] at HDC
  have s0 := part_small ((⟨#[104, 116, 116, 112]⟩ : ByteArray) ++ (⟨#[58, 47, 47]⟩ : ByteArray)) (by simp <;> omega)
  have s1 := part_small (((⟨#[104, 116, 116, 112]⟩ : ByteArray) ++ (⟨#[58, 47, 47]⟩ : ByteArray)) ++ (⟨#[117, 58, 112, 64]⟩ : ByteArray)) (by simp <;> omega)
  have s2 := part_small ((((⟨#[104, 116, 116, 112]⟩ : ByteArray) ++ (⟨#[58, 47, 47]⟩ : ByteArray)) ++ (⟨#[117, 58, 112, 64]⟩ : ByteArray)) ++ (⟨#[104, 46, 120, 58, 48, 48]⟩ : ByteArray)) (by simp <;> omega)
  have s3 := part_small (((((⟨#[104, 116, 116, 112]⟩ : ByteArray) ++ (⟨#[58, 47, 47]⟩ : ByteArray)) ++ (⟨#[117, 58, 112, 64]⟩ : ByteArray)) ++ (⟨#[104, 46, 120, 58, 48, 48]⟩ : ByteArray)) ++ I) (by simp [hIl] <;> omega)
  have s4 := part_small ((((((⟨#[104, 116, 116, 112]⟩ : ByteArray) ++ (⟨#[58, 47, 47]⟩ : ByteArray)) ++ (⟨#[117, 58, 112, 64]⟩ : ByteArray)) ++ (⟨#[104, 46, 120, 58, 48, 48]⟩ : ByteArray)) ++ I) ++ (⟨#[47, 97]⟩ : ByteArray)) (by simp [hIl] <;> omega)
  have s5 := part_small (((((((⟨#[104, 116, 116, 112]⟩ : ByteArray) ++ (⟨#[58, 47, 47]⟩ : ByteArray)) ++ (⟨#[117, 58, 112, 64]⟩ : ByteArray)) ++ (⟨#[104, 46, 120, 58, 48, 48]⟩ : ByteArray)) ++ I) ++ (⟨#[47, 97]⟩ : ByteArray)) ++ (⟨#[63, 113]⟩ : ByteArray)) (by simp [hIl] <;> omega)
  have HX : Hid ((((((((⟨#[104, 116, 116, 112]⟩ : ByteArray) ++ (⟨#[58, 47, 47]⟩ : ByteArray)) ++ (⟨#[117, 58, 112, 64]⟩ : ByteArray)) ++ (⟨#[104, 46, 120, 58, 48, 48]⟩ : ByteArray)) ++ I) ++ (⟨#[47, 97]⟩ : ByteArray)) ++ (⟨#[63, 113]⟩ : ByteArray)).data.toList = partsT false true true false p) := Lib.hid (by simp [hIl, partsT, httpL])
  have HU : Hid (partsU false true true false p = ⟨[104, 116, 116, 112], [117], [112], [104, 46, 120], p, [47, 97], true, [113], false, []⟩) := Lib.hid (by simp [partsU, httpL, hd])
  have HP : Hid (∀ W, Env11 W → Calls Tryz.prog 10 #[.string (((((((⟨#[104, 116, 116, 112]⟩ : ByteArray) ++ (⟨#[58, 47, 47]⟩ : ByteArray)) ++ (⟨#[117, 58, 112, 64]⟩ : ByteArray)) ++ (⟨#[104, 46, 120, 58, 48, 48]⟩ : ByteArray)) ++ I) ++ (⟨#[47, 97]⟩ : ByteArray)) ++ (⟨#[63, 113]⟩ : ByteArray))] W fun e w' => e = .returned (.tuple #[.agg #[.string ⟨#[104, 116, 116, 112]⟩, .string ⟨#[117]⟩, .string ⟨#[112]⟩, .string ⟨#[104, 46, 120]⟩, .int .i64 p, .string ⟨#[47, 97]⟩, .bool true, .string ⟨#[113]⟩, .bool false, .string ⟨#[]⟩], .int .i64 0]) ∧ Below W.heap.size W w') := Lib.hid (by
    intro W hW
    have := uparse_any (((((((⟨#[104, 116, 116, 112]⟩ : ByteArray) ++ (⟨#[58, 47, 47]⟩ : ByteArray)) ++ (⟨#[117, 58, 112, 64]⟩ : ByteArray)) ++ (⟨#[104, 46, 120, 58, 48, 48]⟩ : ByteArray)) ++ I) ++ (⟨#[47, 97]⟩ : ByteArray)) ++ (⟨#[63, 113]⟩ : ByteArray)) (by omega) W hW
    rw [HX.out, parts_url false true true false p (by omega), if_pos (by omega), HU.out] at this
    exact this)
  have HPT : Hid (∀ W, Calls Tryz.prog 17 #[.agg #[.string ⟨#[104, 116, 116, 112]⟩, .string ⟨#[117]⟩, .string ⟨#[112]⟩, .string ⟨#[104, 46, 120]⟩, .int .i64 p, .string ⟨#[47, 97]⟩, .bool true, .string ⟨#[113]⟩, .bool false, .string ⟨#[]⟩]] W fun e w' => e = .returned (.int .i64 p) ∧ Below W.heap.size W w') := Lib.hid (by
    intro W
    have := uPortU_any ⟨#[104, 116, 116, 112]⟩ ⟨#[117]⟩ ⟨#[112]⟩ ⟨#[104, 46, 120]⟩ ⟨#[47, 97]⟩ ⟨#[113]⟩ ⟨#[]⟩ p true false W
    rw [if_neg (by omega)] at this
    exact this)
  clear hI hIl hml hE
  go_enter Tryz.func8, Tryz.ntmps8
  go_wp2_with fail
  refine (HDC.out _).mono ?_
  rintro e w1 ⟨rfl, hb1⟩
  have HB1 := Lib.hid hb1
  clear hb1
  go_wp2_with fail
  refine (HP.out _ (env_below HE.out HB1.out)).mono ?_
  rintro e w2 ⟨rfl, hb2⟩
  have HB4 := Lib.hid (below_more (below_more (below_then HB1.out hb2) (.cells #[.string ⟨#[104, 116, 116, 112]⟩, .string ⟨#[117]⟩, .string ⟨#[112]⟩, .string ⟨#[104, 46, 120]⟩, .int .i64 p, .string ⟨#[47, 97]⟩, .bool true, .string ⟨#[113]⟩, .bool false, .string ⟨#[]⟩] 24)) (.cells #[.string ⟨#[104, 116, 116, 112]⟩, .string ⟨#[117]⟩, .string ⟨#[112]⟩, .string ⟨#[104, 46, 120]⟩, .int .i64 p, .string ⟨#[47, 97]⟩, .bool true, .string ⟨#[113]⟩, .bool false, .string ⟨#[]⟩] 24))
  have HS4 := Lib.hid (Rw.more (Rw.alloc (base := 0) w2 24 #[.string ⟨#[104, 116, 116, 112]⟩, .string ⟨#[117]⟩, .string ⟨#[112]⟩, .string ⟨#[104, 46, 120]⟩, .int .i64 p, .string ⟨#[47, 97]⟩, .bool true, .string ⟨#[113]⟩, .bool false, .string ⟨#[]⟩] (Nat.zero_le _)) (.cells #[.string ⟨#[104, 116, 116, 112]⟩, .string ⟨#[117]⟩, .string ⟨#[112]⟩, .string ⟨#[104, 46, 120]⟩, .int .i64 p, .string ⟨#[47, 97]⟩, .bool true, .string ⟨#[113]⟩, .bool false, .string ⟨#[]⟩] 24))
  have HR4 := Lib.hid (Rw.alloc (base := 0) (w2.alloc (.cells #[.string ⟨#[104, 116, 116, 112]⟩, .string ⟨#[117]⟩, .string ⟨#[112]⟩, .string ⟨#[104, 46, 120]⟩, .int .i64 p, .string ⟨#[47, 97]⟩, .bool true, .string ⟨#[113]⟩, .bool false, .string ⟨#[]⟩] 24)) 24 #[.string ⟨#[104, 116, 116, 112]⟩, .string ⟨#[117]⟩, .string ⟨#[112]⟩, .string ⟨#[104, 46, 120]⟩, .int .i64 p, .string ⟨#[47, 97]⟩, .bool true, .string ⟨#[113]⟩, .bool false, .string ⟨#[]⟩] (Nat.zero_le _))
  clear hb2
  have ka0 := Rw.cell HS4.out (j := 0) rfl
  have kb0 := Rw.cell HR4.out (j := 0) rfl
  have ka1 := Rw.cell HS4.out (j := 1) rfl
  have kb1 := Rw.cell HR4.out (j := 1) rfl
  have ka2 := Rw.cell HS4.out (j := 2) rfl
  have kb2 := Rw.cell HR4.out (j := 2) rfl
  have ka3 := Rw.cell HS4.out (j := 3) rfl
  have kb3 := Rw.cell HR4.out (j := 3) rfl
  have ka4 := Rw.cell HS4.out (j := 4) rfl
  have kb4 := Rw.cell HR4.out (j := 4) rfl
  have ka5 := Rw.cell HS4.out (j := 5) rfl
  have kb5 := Rw.cell HR4.out (j := 5) rfl
  have ka6 := Rw.cell HS4.out (j := 6) rfl
  have kb6 := Rw.cell HR4.out (j := 6) rfl
  have ka7 := Rw.cell HS4.out (j := 7) rfl
  have kb7 := Rw.cell HR4.out (j := 7) rfl
  have ka8 := Rw.cell HS4.out (j := 8) rfl
  have kb8 := Rw.cell HR4.out (j := 8) rfl
  have ka9 := Rw.cell HS4.out (j := 9) rfl
  have kb9 := Rw.cell HR4.out (j := 9) rfl
  go_wp2_with fail
  refine (HPT.out _).mono ?_
  rintro e z1 ⟨rfl, hc1⟩
  have HC1 := Lib.hid (below_then HB4.out hc1)
  clear hc1
  go_wp2_with fail
  refine (HAW.out _ (env_below HE.out HC1.out)).mono ?_
  rintro e z2 ⟨rfl, hc2⟩
  have HC2 := Lib.hid (below_then HC1.out hc2)
  clear hc2
  go_wp2_with fail
  go_ret
  exact ⟨rfl, HC2.out⟩

set_option maxHeartbeats 2000000 in
theorem uparts_0110c (p : Int) (hp : 65535 < p ∧ p ≤ 70000) (w : World) (hE : Env11 w) :
    Calls Tryz.prog 8 #[.int .i64 p, .bool true, .bool true, .bool false, .bool false] w fun e w' => e = .returned (.bool true) ∧ Below w.heap.size w w' := by
  have HE := Lib.hid hE
  have HAW := Lib.hid (fun W (hW : Env11 W) => uawake_any W hW)
  have HDC := Lib.hid (fun W => udecimal_any p (by omega) W)
  have hml := Lib.itoa_length_le p (by omega) (by omega)
  obtain ⟨I, hI⟩ : ∃ I : ByteArray, I = ⟨(Lib.itoa p).toArray⟩ := ⟨_, rfl⟩
  have hIs : I.size ≤ 21 := by rw [hI, mk_size]; omega
  have hIl : I.data.toList = Lib.itoa p := by rw [hI]
  rw [← hI] at HDC
  have s0 := part_small ((⟨#[104, 116, 116, 112]⟩ : ByteArray) ++ (⟨#[58, 47, 47]⟩ : ByteArray)) (by simp <;> omega)
  have s1 := part_small (((⟨#[104, 116, 116, 112]⟩ : ByteArray) ++ (⟨#[58, 47, 47]⟩ : ByteArray)) ++ (⟨#[117, 58, 112, 64]⟩ : ByteArray)) (by simp <;> omega)
  have s2 := part_small ((((⟨#[104, 116, 116, 112]⟩ : ByteArray) ++ (⟨#[58, 47, 47]⟩ : ByteArray)) ++ (⟨#[117, 58, 112, 64]⟩ : ByteArray)) ++ (⟨#[104, 46, 120, 58, 48, 48]⟩ : ByteArray)) (by simp <;> omega)
  have s3 := part_small (((((⟨#[104, 116, 116, 112]⟩ : ByteArray) ++ (⟨#[58, 47, 47]⟩ : ByteArray)) ++ (⟨#[117, 58, 112, 64]⟩ : ByteArray)) ++ (⟨#[104, 46, 120, 58, 48, 48]⟩ : ByteArray)) ++ I) (by simp [hIl] <;> omega)
  have s4 := part_small ((((((⟨#[104, 116, 116, 112]⟩ : ByteArray) ++ (⟨#[58, 47, 47]⟩ : ByteArray)) ++ (⟨#[117, 58, 112, 64]⟩ : ByteArray)) ++ (⟨#[104, 46, 120, 58, 48, 48]⟩ : ByteArray)) ++ I) ++ (⟨#[47, 97]⟩ : ByteArray)) (by simp [hIl] <;> omega)
  have s5 := part_small (((((((⟨#[104, 116, 116, 112]⟩ : ByteArray) ++ (⟨#[58, 47, 47]⟩ : ByteArray)) ++ (⟨#[117, 58, 112, 64]⟩ : ByteArray)) ++ (⟨#[104, 46, 120, 58, 48, 48]⟩ : ByteArray)) ++ I) ++ (⟨#[47, 97]⟩ : ByteArray)) ++ (⟨#[63, 113]⟩ : ByteArray)) (by simp [hIl] <;> omega)
  have HX : Hid ((((((((⟨#[104, 116, 116, 112]⟩ : ByteArray) ++ (⟨#[58, 47, 47]⟩ : ByteArray)) ++ (⟨#[117, 58, 112, 64]⟩ : ByteArray)) ++ (⟨#[104, 46, 120, 58, 48, 48]⟩ : ByteArray)) ++ I) ++ (⟨#[47, 97]⟩ : ByteArray)) ++ (⟨#[63, 113]⟩ : ByteArray)).data.toList = partsT false true true false p) := Lib.hid (by simp [hIl, partsT, httpL])
  have HP : Hid (∀ W, Env11 W → Calls Tryz.prog 10 #[.string (((((((⟨#[104, 116, 116, 112]⟩ : ByteArray) ++ (⟨#[58, 47, 47]⟩ : ByteArray)) ++ (⟨#[117, 58, 112, 64]⟩ : ByteArray)) ++ (⟨#[104, 46, 120, 58, 48, 48]⟩ : ByteArray)) ++ I) ++ (⟨#[47, 97]⟩ : ByteArray)) ++ (⟨#[63, 113]⟩ : ByteArray))] W fun e w' => e = .returned (.tuple #[.agg #[.string ⟨#[]⟩, .string ⟨#[]⟩, .string ⟨#[]⟩, .string ⟨#[]⟩, .int .i64 0, .string ⟨#[]⟩, .bool false, .string ⟨#[]⟩, .bool false, .string ⟨#[]⟩], .int .i64 8]) ∧ Below W.heap.size W w') := Lib.hid (by
    intro W hW
    have := uparse_any (((((((⟨#[104, 116, 116, 112]⟩ : ByteArray) ++ (⟨#[58, 47, 47]⟩ : ByteArray)) ++ (⟨#[117, 58, 112, 64]⟩ : ByteArray)) ++ (⟨#[104, 46, 120, 58, 48, 48]⟩ : ByteArray)) ++ I) ++ (⟨#[47, 97]⟩ : ByteArray)) ++ (⟨#[63, 113]⟩ : ByteArray)) (by omega) W hW
    rw [HX.out, parts_url false true true false p (by omega), if_neg (by omega)] at this
    exact this)
  clear hI hIl hml hE
  go_enter Tryz.func8, Tryz.ntmps8
  go_wp2_with fail
  refine (HDC.out _).mono ?_
  rintro e w1 ⟨rfl, hb1⟩
  have HB1 := Lib.hid hb1
  clear hb1
  go_wp2_with fail
  refine (HP.out _ (env_below HE.out HB1.out)).mono ?_
  rintro e w2 ⟨rfl, hb2⟩
  have HB2 := Lib.hid (below_more (below_then HB1.out hb2) (.cells #[.string ⟨#[]⟩, .string ⟨#[]⟩, .string ⟨#[]⟩, .string ⟨#[]⟩, .int .i64 0, .string ⟨#[]⟩, .bool false, .string ⟨#[]⟩, .bool false, .string ⟨#[]⟩] 24))
  clear hb2
  go_wp2_with fail
  refine (HAW.out _ (env_below HE.out HB2.out)).mono ?_
  rintro e w3 ⟨rfl, hb3⟩
  have HB3 := Lib.hid (below_then HB2.out hb3)
  clear hb3
  go_wp2_with fail
  go_ret
  exact ⟨rfl, HB3.out⟩

set_option maxHeartbeats 2000000 in
theorem uparts_0111a (w : World) (hE : Env11 w) :
    Calls Tryz.prog 8 #[.int .i64 80, .bool true, .bool true, .bool true, .bool false] w fun e w' => e = .returned (.bool true) ∧ Below w.heap.size w w' := by
  have HE := Lib.hid hE
  have HAW := Lib.hid (fun W (hW : Env11 W) => uawake_any W hW)
  have HDC := Lib.hid (fun W => udecimal_any 80 (by omega) W)
  have hml := Lib.itoa_length_le 80 (by omega) (by omega)
  obtain ⟨I, hI⟩ : ∃ I : ByteArray, I = ⟨(Lib.itoa 80).toArray⟩ := ⟨_, rfl⟩
  have hIs : I.size ≤ 21 := by rw [hI, mk_size]; omega
  have hIl : I.data.toList = Lib.itoa 80 := by rw [hI]
  rw [← hI] at HDC
  have s0 := part_small ((⟨#[104, 116, 116, 112]⟩ : ByteArray) ++ (⟨#[58, 47, 47]⟩ : ByteArray)) (by simp <;> omega)
  have s1 := part_small (((⟨#[104, 116, 116, 112]⟩ : ByteArray) ++ (⟨#[58, 47, 47]⟩ : ByteArray)) ++ (⟨#[117, 58, 112, 64]⟩ : ByteArray)) (by simp <;> omega)
  have s2 := part_small ((((⟨#[104, 116, 116, 112]⟩ : ByteArray) ++ (⟨#[58, 47, 47]⟩ : ByteArray)) ++ (⟨#[117, 58, 112, 64]⟩ : ByteArray)) ++ (⟨#[104, 46, 120, 58, 48, 48]⟩ : ByteArray)) (by simp <;> omega)
  have s3 := part_small (((((⟨#[104, 116, 116, 112]⟩ : ByteArray) ++ (⟨#[58, 47, 47]⟩ : ByteArray)) ++ (⟨#[117, 58, 112, 64]⟩ : ByteArray)) ++ (⟨#[104, 46, 120, 58, 48, 48]⟩ : ByteArray)) ++ I) (by simp [hIl] <;> omega)
  have s4 := part_small ((((((⟨#[104, 116, 116, 112]⟩ : ByteArray) ++ (⟨#[58, 47, 47]⟩ : ByteArray)) ++ (⟨#[117, 58, 112, 64]⟩ : ByteArray)) ++ (⟨#[104, 46, 120, 58, 48, 48]⟩ : ByteArray)) ++ I) ++ (⟨#[47, 97]⟩ : ByteArray)) (by simp [hIl] <;> omega)
  have s5 := part_small (((((((⟨#[104, 116, 116, 112]⟩ : ByteArray) ++ (⟨#[58, 47, 47]⟩ : ByteArray)) ++ (⟨#[117, 58, 112, 64]⟩ : ByteArray)) ++ (⟨#[104, 46, 120, 58, 48, 48]⟩ : ByteArray)) ++ I) ++ (⟨#[47, 97]⟩ : ByteArray)) ++ (⟨#[63, 113]⟩ : ByteArray)) (by simp [hIl] <;> omega)
  have s6 := part_small ((((((((⟨#[104, 116, 116, 112]⟩ : ByteArray) ++ (⟨#[58, 47, 47]⟩ : ByteArray)) ++ (⟨#[117, 58, 112, 64]⟩ : ByteArray)) ++ (⟨#[104, 46, 120, 58, 48, 48]⟩ : ByteArray)) ++ I) ++ (⟨#[47, 97]⟩ : ByteArray)) ++ (⟨#[63, 113]⟩ : ByteArray)) ++ (⟨#[35, 102]⟩ : ByteArray)) (by simp [hIl] <;> omega)
  have HX : Hid (((((((((⟨#[104, 116, 116, 112]⟩ : ByteArray) ++ (⟨#[58, 47, 47]⟩ : ByteArray)) ++ (⟨#[117, 58, 112, 64]⟩ : ByteArray)) ++ (⟨#[104, 46, 120, 58, 48, 48]⟩ : ByteArray)) ++ I) ++ (⟨#[47, 97]⟩ : ByteArray)) ++ (⟨#[63, 113]⟩ : ByteArray)) ++ (⟨#[35, 102]⟩ : ByteArray)).data.toList = partsT false true true true 80) := Lib.hid (by simp [hIl, partsT, httpL])
  have HU : Hid (partsU false true true true 80 = ⟨[104, 116, 116, 112], [117], [112], [104, 46, 120], (-1), [47, 97], true, [113], true, [102]⟩) := Lib.hid (by simp [partsU, httpL])
  have HP : Hid (∀ W, Env11 W → Calls Tryz.prog 10 #[.string ((((((((⟨#[104, 116, 116, 112]⟩ : ByteArray) ++ (⟨#[58, 47, 47]⟩ : ByteArray)) ++ (⟨#[117, 58, 112, 64]⟩ : ByteArray)) ++ (⟨#[104, 46, 120, 58, 48, 48]⟩ : ByteArray)) ++ I) ++ (⟨#[47, 97]⟩ : ByteArray)) ++ (⟨#[63, 113]⟩ : ByteArray)) ++ (⟨#[35, 102]⟩ : ByteArray))] W fun e w' => e = .returned (.tuple #[.agg #[.string ⟨#[104, 116, 116, 112]⟩, .string ⟨#[117]⟩, .string ⟨#[112]⟩, .string ⟨#[104, 46, 120]⟩, .int .i64 (-1), .string ⟨#[47, 97]⟩, .bool true, .string ⟨#[113]⟩, .bool true, .string ⟨#[102]⟩], .int .i64 0]) ∧ Below W.heap.size W w') := Lib.hid (by
    intro W hW
    have := uparse_any ((((((((⟨#[104, 116, 116, 112]⟩ : ByteArray) ++ (⟨#[58, 47, 47]⟩ : ByteArray)) ++ (⟨#[117, 58, 112, 64]⟩ : ByteArray)) ++ (⟨#[104, 46, 120, 58, 48, 48]⟩ : ByteArray)) ++ I) ++ (⟨#[47, 97]⟩ : ByteArray)) ++ (⟨#[63, 113]⟩ : ByteArray)) ++ (⟨#[35, 102]⟩ : ByteArray)) (by omega) W hW
    rw [HX.out, parts_url false true true true 80 (by omega), if_pos (by omega), HU.out] at this
    exact this)
  have HPT : Hid (∀ W, Calls Tryz.prog 17 #[.agg #[.string ⟨#[104, 116, 116, 112]⟩, .string ⟨#[117]⟩, .string ⟨#[112]⟩, .string ⟨#[104, 46, 120]⟩, .int .i64 (-1), .string ⟨#[47, 97]⟩, .bool true, .string ⟨#[113]⟩, .bool true, .string ⟨#[102]⟩]] W fun e w' => e = .returned (.int .i64 80) ∧ Below W.heap.size W w') := Lib.hid (by
    intro W
    have := uPortU_any ⟨#[104, 116, 116, 112]⟩ ⟨#[117]⟩ ⟨#[112]⟩ ⟨#[104, 46, 120]⟩ ⟨#[47, 97]⟩ ⟨#[113]⟩ ⟨#[102]⟩ (-1) true true W
    exact this)
  clear hI hIl hml hE
  go_enter Tryz.func8, Tryz.ntmps8
  go_wp2_with fail
  refine (HDC.out _).mono ?_
  rintro e w1 ⟨rfl, hb1⟩
  have HB1 := Lib.hid hb1
  clear hb1
  go_wp2_with fail
  refine (HP.out _ (env_below HE.out HB1.out)).mono ?_
  rintro e w2 ⟨rfl, hb2⟩
  have HB4 := Lib.hid (below_more (below_more (below_then HB1.out hb2) (.cells #[.string ⟨#[104, 116, 116, 112]⟩, .string ⟨#[117]⟩, .string ⟨#[112]⟩, .string ⟨#[104, 46, 120]⟩, .int .i64 (-1), .string ⟨#[47, 97]⟩, .bool true, .string ⟨#[113]⟩, .bool true, .string ⟨#[102]⟩] 24)) (.cells #[.string ⟨#[104, 116, 116, 112]⟩, .string ⟨#[117]⟩, .string ⟨#[112]⟩, .string ⟨#[104, 46, 120]⟩, .int .i64 (-1), .string ⟨#[47, 97]⟩, .bool true, .string ⟨#[113]⟩, .bool true, .string ⟨#[102]⟩] 24))
  have HS4 := Lib.hid (Rw.more (Rw.alloc (base := 0) w2 24 #[.string ⟨#[104, 116, 116, 112]⟩, .string ⟨#[117]⟩, .string ⟨#[112]⟩, .string ⟨#[104, 46, 120]⟩, .int .i64 (-1), .string ⟨#[47, 97]⟩, .bool true, .string ⟨#[113]⟩, .bool true, .string ⟨#[102]⟩] (Nat.zero_le _)) (.cells #[.string ⟨#[104, 116, 116, 112]⟩, .string ⟨#[117]⟩, .string ⟨#[112]⟩, .string ⟨#[104, 46, 120]⟩, .int .i64 (-1), .string ⟨#[47, 97]⟩, .bool true, .string ⟨#[113]⟩, .bool true, .string ⟨#[102]⟩] 24))
  have HR4 := Lib.hid (Rw.alloc (base := 0) (w2.alloc (.cells #[.string ⟨#[104, 116, 116, 112]⟩, .string ⟨#[117]⟩, .string ⟨#[112]⟩, .string ⟨#[104, 46, 120]⟩, .int .i64 (-1), .string ⟨#[47, 97]⟩, .bool true, .string ⟨#[113]⟩, .bool true, .string ⟨#[102]⟩] 24)) 24 #[.string ⟨#[104, 116, 116, 112]⟩, .string ⟨#[117]⟩, .string ⟨#[112]⟩, .string ⟨#[104, 46, 120]⟩, .int .i64 (-1), .string ⟨#[47, 97]⟩, .bool true, .string ⟨#[113]⟩, .bool true, .string ⟨#[102]⟩] (Nat.zero_le _))
  clear hb2
  have ka0 := Rw.cell HS4.out (j := 0) rfl
  have kb0 := Rw.cell HR4.out (j := 0) rfl
  have ka1 := Rw.cell HS4.out (j := 1) rfl
  have kb1 := Rw.cell HR4.out (j := 1) rfl
  have ka2 := Rw.cell HS4.out (j := 2) rfl
  have kb2 := Rw.cell HR4.out (j := 2) rfl
  have ka3 := Rw.cell HS4.out (j := 3) rfl
  have kb3 := Rw.cell HR4.out (j := 3) rfl
  have ka4 := Rw.cell HS4.out (j := 4) rfl
  have kb4 := Rw.cell HR4.out (j := 4) rfl
  have ka5 := Rw.cell HS4.out (j := 5) rfl
  have kb5 := Rw.cell HR4.out (j := 5) rfl
  have ka6 := Rw.cell HS4.out (j := 6) rfl
  have kb6 := Rw.cell HR4.out (j := 6) rfl
  have ka7 := Rw.cell HS4.out (j := 7) rfl
  have kb7 := Rw.cell HR4.out (j := 7) rfl
  have ka8 := Rw.cell HS4.out (j := 8) rfl
  have kb8 := Rw.cell HR4.out (j := 8) rfl
  have ka9 := Rw.cell HS4.out (j := 9) rfl
  have kb9 := Rw.cell HR4.out (j := 9) rfl
  go_wp2_with fail
  refine (HPT.out _).mono ?_
  rintro e z1 ⟨rfl, hc1⟩
  have HC1 := Lib.hid (below_then HB4.out hc1)
  clear hc1
  go_wp2_with fail
  refine (HAW.out _ (env_below HE.out HC1.out)).mono ?_
  rintro e z2 ⟨rfl, hc2⟩
  have HC2 := Lib.hid (below_then HC1.out hc2)
  clear hc2
  go_wp2_with fail
  go_ret
  exact ⟨rfl, HC2.out⟩

set_option maxHeartbeats 2000000 in
theorem uparts_0111b (p : Int) (hp : 0 ≤ p ∧ p ≤ 65535) (hd : ¬ p = 80) (w : World) (hE : Env11 w) :
    Calls Tryz.prog 8 #[.int .i64 p, .bool true, .bool true, .bool true, .bool false] w fun e w' => e = .returned (.bool true) ∧ Below w.heap.size w w' := by
  have HE := Lib.hid hE
  have HAW := Lib.hid (fun W (hW : Env11 W) => uawake_any W hW)
  have HDC := Lib.hid (fun W => udecimal_any p (by omega) W)
  have hml := Lib.itoa_length_le p (by omega) (by omega)
  obtain ⟨I, hI⟩ : ∃ I : ByteArray, I = ⟨(Lib.itoa p).toArray⟩ := ⟨_, rfl⟩
  have hIs : I.size ≤ 21 := by rw [hI, mk_size]; omega
  have hIl : I.data.toList = Lib.itoa p := by rw [hI]
  rw [← hI] at HDC
  have s0 := part_small ((⟨#[104, 116, 116, 112]⟩ : ByteArray) ++ (⟨#[58, 47, 47]⟩ : ByteArray)) (by simp <;> omega)
  have s1 := part_small (((⟨#[104, 116, 116, 112]⟩ : ByteArray) ++ (⟨#[58, 47, 47]⟩ : ByteArray)) ++ (⟨#[117, 58, 112, 64]⟩ : ByteArray)) (by simp <;> omega)
  have s2 := part_small ((((⟨#[104, 116, 116, 112]⟩ : ByteArray) ++ (⟨#[58, 47, 47]⟩ : ByteArray)) ++ (⟨#[117, 58, 112, 64]⟩ : ByteArray)) ++ (⟨#[104, 46, 120, 58, 48, 48]⟩ : ByteArray)) (by simp <;> omega)
  have s3 := part_small (((((⟨#[104, 116, 116, 112]⟩ : ByteArray) ++ (⟨#[58, 47, 47]⟩ : ByteArray)) ++ (⟨#[117, 58, 112, 64]⟩ : ByteArray)) ++ (⟨#[104, 46, 120, 58, 48, 48]⟩ : ByteArray)) ++ I) (by simp [hIl] <;> omega)
  have s4 := part_small ((((((⟨#[104, 116, 116, 112]⟩ : ByteArray) ++ (⟨#[58, 47, 47]⟩ : ByteArray)) ++ (⟨#[117, 58, 112, 64]⟩ : ByteArray)) ++ (⟨#[104, 46, 120, 58, 48, 48]⟩ : ByteArray)) ++ I) ++ (⟨#[47, 97]⟩ : ByteArray)) (by simp [hIl] <;> omega)
  have s5 := part_small (((((((⟨#[104, 116, 116, 112]⟩ : ByteArray) ++ (⟨#[58, 47, 47]⟩ : ByteArray)) ++ (⟨#[117, 58, 112, 64]⟩ : ByteArray)) ++ (⟨#[104, 46, 120, 58, 48, 48]⟩ : ByteArray)) ++ I) ++ (⟨#[47, 97]⟩ : ByteArray)) ++ (⟨#[63, 113]⟩ : ByteArray)) (by simp [hIl] <;> omega)
  have s6 := part_small ((((((((⟨#[104, 116, 116, 112]⟩ : ByteArray) ++ (⟨#[58, 47, 47]⟩ : ByteArray)) ++ (⟨#[117, 58, 112, 64]⟩ : ByteArray)) ++ (⟨#[104, 46, 120, 58, 48, 48]⟩ : ByteArray)) ++ I) ++ (⟨#[47, 97]⟩ : ByteArray)) ++ (⟨#[63, 113]⟩ : ByteArray)) ++ (⟨#[35, 102]⟩ : ByteArray)) (by simp [hIl] <;> omega)
  have HX : Hid (((((((((⟨#[104, 116, 116, 112]⟩ : ByteArray) ++ (⟨#[58, 47, 47]⟩ : ByteArray)) ++ (⟨#[117, 58, 112, 64]⟩ : ByteArray)) ++ (⟨#[104, 46, 120, 58, 48, 48]⟩ : ByteArray)) ++ I) ++ (⟨#[47, 97]⟩ : ByteArray)) ++ (⟨#[63, 113]⟩ : ByteArray)) ++ (⟨#[35, 102]⟩ : ByteArray)).data.toList = partsT false true true true p) := Lib.hid (by simp [hIl, partsT, httpL])
  have HU : Hid (partsU false true true true p = ⟨[104, 116, 116, 112], [117], [112], [104, 46, 120], p, [47, 97], true, [113], true, [102]⟩) := Lib.hid (by simp [partsU, httpL, hd])
  have HP : Hid (∀ W, Env11 W → Calls Tryz.prog 10 #[.string ((((((((⟨#[104, 116, 116, 112]⟩ : ByteArray) ++ (⟨#[58, 47, 47]⟩ : ByteArray)) ++ (⟨#[117, 58, 112, 64]⟩ : ByteArray)) ++ (⟨#[104, 46, 120, 58, 48, 48]⟩ : ByteArray)) ++ I) ++ (⟨#[47, 97]⟩ : ByteArray)) ++ (⟨#[63, 113]⟩ : ByteArray)) ++ (⟨#[35, 102]⟩ : ByteArray))] W fun e w' => e = .returned (.tuple #[.agg #[.string ⟨#[104, 116, 116, 112]⟩, .string ⟨#[117]⟩, .string ⟨#[112]⟩, .string ⟨#[104, 46, 120]⟩, .int .i64 p, .string ⟨#[47, 97]⟩, .bool true, .string ⟨#[113]⟩, .bool true, .string ⟨#[102]⟩], .int .i64 0]) ∧ Below W.heap.size W w') := Lib.hid (by
    intro W hW
    have := uparse_any ((((((((⟨#[104, 116, 116, 112]⟩ : ByteArray) ++ (⟨#[58, 47, 47]⟩ : ByteArray)) ++ (⟨#[117, 58, 112, 64]⟩ : ByteArray)) ++ (⟨#[104, 46, 120, 58, 48, 48]⟩ : ByteArray)) ++ I) ++ (⟨#[47, 97]⟩ : ByteArray)) ++ (⟨#[63, 113]⟩ : ByteArray)) ++ (⟨#[35, 102]⟩ : ByteArray)) (by omega) W hW
    rw [HX.out, parts_url false true true true p (by omega), if_pos (by omega), HU.out] at this
    exact this)
  have HPT : Hid (∀ W, Calls Tryz.prog 17 #[.agg #[.string ⟨#[104, 116, 116, 112]⟩, .string ⟨#[117]⟩, .string ⟨#[112]⟩, .string ⟨#[104, 46, 120]⟩, .int .i64 p, .string ⟨#[47, 97]⟩, .bool true, .string ⟨#[113]⟩, .bool true, .string ⟨#[102]⟩]] W fun e w' => e = .returned (.int .i64 p) ∧ Below W.heap.size W w') := Lib.hid (by
    intro W
    have := uPortU_any ⟨#[104, 116, 116, 112]⟩ ⟨#[117]⟩ ⟨#[112]⟩ ⟨#[104, 46, 120]⟩ ⟨#[47, 97]⟩ ⟨#[113]⟩ ⟨#[102]⟩ p true true W
    rw [if_neg (by omega)] at this
    exact this)
  clear hI hIl hml hE
  go_enter Tryz.func8, Tryz.ntmps8
  go_wp2_with fail
  refine (HDC.out _).mono ?_
  rintro e w1 ⟨rfl, hb1⟩
  have HB1 := Lib.hid hb1
  clear hb1
  go_wp2_with fail
  refine (HP.out _ (env_below HE.out HB1.out)).mono ?_
  rintro e w2 ⟨rfl, hb2⟩
  have HB4 := Lib.hid (below_more (below_more (below_then HB1.out hb2) (.cells #[.string ⟨#[104, 116, 116, 112]⟩, .string ⟨#[117]⟩, .string ⟨#[112]⟩, .string ⟨#[104, 46, 120]⟩, .int .i64 p, .string ⟨#[47, 97]⟩, .bool true, .string ⟨#[113]⟩, .bool true, .string ⟨#[102]⟩] 24)) (.cells #[.string ⟨#[104, 116, 116, 112]⟩, .string ⟨#[117]⟩, .string ⟨#[112]⟩, .string ⟨#[104, 46, 120]⟩, .int .i64 p, .string ⟨#[47, 97]⟩, .bool true, .string ⟨#[113]⟩, .bool true, .string ⟨#[102]⟩] 24))
  have HS4 := Lib.hid (Rw.more (Rw.alloc (base := 0) w2 24 #[.string ⟨#[104, 116, 116, 112]⟩, .string ⟨#[117]⟩, .string ⟨#[112]⟩, .string ⟨#[104, 46, 120]⟩, .int .i64 p, .string ⟨#[47, 97]⟩, .bool true, .string ⟨#[113]⟩, .bool true, .string ⟨#[102]⟩] (Nat.zero_le _)) (.cells #[.string ⟨#[104, 116, 116, 112]⟩, .string ⟨#[117]⟩, .string ⟨#[112]⟩, .string ⟨#[104, 46, 120]⟩, .int .i64 p, .string ⟨#[47, 97]⟩, .bool true, .string ⟨#[113]⟩, .bool true, .string ⟨#[102]⟩] 24))
  have HR4 := Lib.hid (Rw.alloc (base := 0) (w2.alloc (.cells #[.string ⟨#[104, 116, 116, 112]⟩, .string ⟨#[117]⟩, .string ⟨#[112]⟩, .string ⟨#[104, 46, 120]⟩, .int .i64 p, .string ⟨#[47, 97]⟩, .bool true, .string ⟨#[113]⟩, .bool true, .string ⟨#[102]⟩] 24)) 24 #[.string ⟨#[104, 116, 116, 112]⟩, .string ⟨#[117]⟩, .string ⟨#[112]⟩, .string ⟨#[104, 46, 120]⟩, .int .i64 p, .string ⟨#[47, 97]⟩, .bool true, .string ⟨#[113]⟩, .bool true, .string ⟨#[102]⟩] (Nat.zero_le _))
  clear hb2
  have ka0 := Rw.cell HS4.out (j := 0) rfl
  have kb0 := Rw.cell HR4.out (j := 0) rfl
  have ka1 := Rw.cell HS4.out (j := 1) rfl
  have kb1 := Rw.cell HR4.out (j := 1) rfl
  have ka2 := Rw.cell HS4.out (j := 2) rfl
  have kb2 := Rw.cell HR4.out (j := 2) rfl
  have ka3 := Rw.cell HS4.out (j := 3) rfl
  have kb3 := Rw.cell HR4.out (j := 3) rfl
  have ka4 := Rw.cell HS4.out (j := 4) rfl
  have kb4 := Rw.cell HR4.out (j := 4) rfl
  have ka5 := Rw.cell HS4.out (j := 5) rfl
  have kb5 := Rw.cell HR4.out (j := 5) rfl
  have ka6 := Rw.cell HS4.out (j := 6) rfl
  have kb6 := Rw.cell HR4.out (j := 6) rfl
  have ka7 := Rw.cell HS4.out (j := 7) rfl
  have kb7 := Rw.cell HR4.out (j := 7) rfl
  have ka8 := Rw.cell HS4.out (j := 8) rfl
  have kb8 := Rw.cell HR4.out (j := 8) rfl
  have ka9 := Rw.cell HS4.out (j := 9) rfl
  have kb9 := Rw.cell HR4.out (j := 9) rfl
  go_wp2_with fail
  refine (HPT.out _).mono ?_
  rintro e z1 ⟨rfl, hc1⟩
  have HC1 := Lib.hid (below_then HB4.out hc1)
  clear hc1
  go_wp2_with fail
  refine (HAW.out _ (env_below HE.out HC1.out)).mono ?_
  rintro e z2 ⟨rfl, hc2⟩
  have HC2 := Lib.hid (below_then HC1.out hc2)
  clear hc2
  go_wp2_with fail
  go_ret
  exact ⟨rfl, HC2.out⟩

set_option maxHeartbeats 2000000 in
theorem uparts_0111c (p : Int) (hp : 65535 < p ∧ p ≤ 70000) (w : World) (hE : Env11 w) :
    Calls Tryz.prog 8 #[.int .i64 p, .bool true, .bool true, .bool true, .bool false] w fun e w' => e = .returned (.bool true) ∧ Below w.heap.size w w' := by
  have HE := Lib.hid hE
  have HAW := Lib.hid (fun W (hW : Env11 W) => uawake_any W hW)
  have HDC := Lib.hid (fun W => udecimal_any p (by omega) W)
  have hml := Lib.itoa_length_le p (by omega) (by omega)
  obtain ⟨I, hI⟩ : ∃ I : ByteArray, I = ⟨(Lib.itoa p).toArray⟩ := ⟨_, rfl⟩
  have hIs : I.size ≤ 21 := by rw [hI, mk_size]; omega
  have hIl : I.data.toList = Lib.itoa p := by rw [hI]
  rw [← hI] at HDC
  have s0 := part_small ((⟨#[104, 116, 116, 112]⟩ : ByteArray) ++ (⟨#[58, 47, 47]⟩ : ByteArray)) (by simp <;> omega)
  have s1 := part_small (((⟨#[104, 116, 116, 112]⟩ : ByteArray) ++ (⟨#[58, 47, 47]⟩ : ByteArray)) ++ (⟨#[117, 58, 112, 64]⟩ : ByteArray)) (by simp <;> omega)
  have s2 := part_small ((((⟨#[104, 116, 116, 112]⟩ : ByteArray) ++ (⟨#[58, 47, 47]⟩ : ByteArray)) ++ (⟨#[117, 58, 112, 64]⟩ : ByteArray)) ++ (⟨#[104, 46, 120, 58, 48, 48]⟩ : ByteArray)) (by simp <;> omega)
  have s3 := part_small (((((⟨#[104, 116, 116, 112]⟩ : ByteArray) ++ (⟨#[58, 47, 47]⟩ : ByteArray)) ++ (⟨#[117, 58, 112, 64]⟩ : ByteArray)) ++ (⟨#[104, 46, 120, 58, 48, 48]⟩ : ByteArray)) ++ I) (by simp [hIl] <;> omega)
  have s4 := part_small ((((((⟨#[104, 116, 116, 112]⟩ : ByteArray) ++ (⟨#[58, 47, 47]⟩ : ByteArray)) ++ (⟨#[117, 58, 112, 64]⟩ : ByteArray)) ++ (⟨#[104, 46, 120, 58, 48, 48]⟩ : ByteArray)) ++ I) ++ (⟨#[47, 97]⟩ : ByteArray)) (by simp [hIl] <;> omega)
  have s5 := part_small (((((((⟨#[104, 116, 116, 112]⟩ : ByteArray) ++ (⟨#[58, 47, 47]⟩ : ByteArray)) ++ (⟨#[117, 58, 112, 64]⟩ : ByteArray)) ++ (⟨#[104, 46, 120, 58, 48, 48]⟩ : ByteArray)) ++ I) ++ (⟨#[47, 97]⟩ : ByteArray)) ++ (⟨#[63, 113]⟩ : ByteArray)) (by simp [hIl] <;> omega)
  have s6 := part_small ((((((((⟨#[104, 116, 116, 112]⟩ : ByteArray) ++ (⟨#[58, 47, 47]⟩ : ByteArray)) ++ (⟨#[117, 58, 112, 64]⟩ : ByteArray)) ++ (⟨#[104, 46, 120, 58, 48, 48]⟩ : ByteArray)) ++ I) ++ (⟨#[47, 97]⟩ : ByteArray)) ++ (⟨#[63, 113]⟩ : ByteArray)) ++ (⟨#[35, 102]⟩ : ByteArray)) (by simp [hIl] <;> omega)
  have HX : Hid (((((((((⟨#[104, 116, 116, 112]⟩ : ByteArray) ++ (⟨#[58, 47, 47]⟩ : ByteArray)) ++ (⟨#[117, 58, 112, 64]⟩ : ByteArray)) ++ (⟨#[104, 46, 120, 58, 48, 48]⟩ : ByteArray)) ++ I) ++ (⟨#[47, 97]⟩ : ByteArray)) ++ (⟨#[63, 113]⟩ : ByteArray)) ++ (⟨#[35, 102]⟩ : ByteArray)).data.toList = partsT false true true true p) := Lib.hid (by simp [hIl, partsT, httpL])
  have HP : Hid (∀ W, Env11 W → Calls Tryz.prog 10 #[.string ((((((((⟨#[104, 116, 116, 112]⟩ : ByteArray) ++ (⟨#[58, 47, 47]⟩ : ByteArray)) ++ (⟨#[117, 58, 112, 64]⟩ : ByteArray)) ++ (⟨#[104, 46, 120, 58, 48, 48]⟩ : ByteArray)) ++ I) ++ (⟨#[47, 97]⟩ : ByteArray)) ++ (⟨#[63, 113]⟩ : ByteArray)) ++ (⟨#[35, 102]⟩ : ByteArray))] W fun e w' => e = .returned (.tuple #[.agg #[.string ⟨#[]⟩, .string ⟨#[]⟩, .string ⟨#[]⟩, .string ⟨#[]⟩, .int .i64 0, .string ⟨#[]⟩, .bool false, .string ⟨#[]⟩, .bool false, .string ⟨#[]⟩], .int .i64 8]) ∧ Below W.heap.size W w') := Lib.hid (by
    intro W hW
    have := uparse_any ((((((((⟨#[104, 116, 116, 112]⟩ : ByteArray) ++ (⟨#[58, 47, 47]⟩ : ByteArray)) ++ (⟨#[117, 58, 112, 64]⟩ : ByteArray)) ++ (⟨#[104, 46, 120, 58, 48, 48]⟩ : ByteArray)) ++ I) ++ (⟨#[47, 97]⟩ : ByteArray)) ++ (⟨#[63, 113]⟩ : ByteArray)) ++ (⟨#[35, 102]⟩ : ByteArray)) (by omega) W hW
    rw [HX.out, parts_url false true true true p (by omega), if_neg (by omega)] at this
    exact this)
  clear hI hIl hml hE
  go_enter Tryz.func8, Tryz.ntmps8
  go_wp2_with fail
  refine (HDC.out _).mono ?_
  rintro e w1 ⟨rfl, hb1⟩
  have HB1 := Lib.hid hb1
  clear hb1
  go_wp2_with fail
  refine (HP.out _ (env_below HE.out HB1.out)).mono ?_
  rintro e w2 ⟨rfl, hb2⟩
  have HB2 := Lib.hid (below_more (below_then HB1.out hb2) (.cells #[.string ⟨#[]⟩, .string ⟨#[]⟩, .string ⟨#[]⟩, .string ⟨#[]⟩, .int .i64 0, .string ⟨#[]⟩, .bool false, .string ⟨#[]⟩, .bool false, .string ⟨#[]⟩] 24))
  clear hb2
  go_wp2_with fail
  refine (HAW.out _ (env_below HE.out HB2.out)).mono ?_
  rintro e w3 ⟨rfl, hb3⟩
  have HB3 := Lib.hid (below_then HB2.out hb3)
  clear hb3
  go_wp2_with fail
  go_ret
  exact ⟨rfl, HB3.out⟩

end Go.Proofs.YtlhdafinfgdlkaaGreatDoor
