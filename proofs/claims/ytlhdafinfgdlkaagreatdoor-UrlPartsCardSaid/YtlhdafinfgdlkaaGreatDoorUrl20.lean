/- UrlParts' walks, the secure ones. -/
import Derived.Test.YtlhdafinfgdlkaaGreatDoorProg
import Derived.Test.YtlhdafinfgdlkaaGreatDoorKit
import Derived.Test.YtlhdafinfgdlkaaGreatDoorRow
import Derived.Test.YtlhdafinfgdlkaaGreatDoorHst1
import Derived.Test.YtlhdafinfgdlkaaGreatDoorUrl0
import Derived.Test.YtlhdafinfgdlkaaGreatDoorUrl6
import Derived.Test.YtlhdafinfgdlkaaGreatDoorUrl9
import Derived.Test.YtlhdafinfgdlkaaGreatDoorUrl12
import Derived.Test.YtlhdafinfgdlkaaGreatDoorUrl15
import Derived.Test.YtlhdafinfgdlkaaGreatDoorUrl19
namespace Go.Proofs.YtlhdafinfgdlkaaGreatDoor
open Go.RowKit Go.Proofs
set_option maxRecDepth 100000

set_option maxHeartbeats 2000000 in
theorem uparts_1000a (w : World) (hE : Env11 w) :
    Calls Tryz.prog 8 #[.int .i64 443, .bool false, .bool false, .bool false, .bool true] w fun e w' => e = .returned (.bool true) ∧ Below w.heap.size w w' := by
  have HE := Lib.hid hE
  have HAW := Lib.hid (fun W (hW : Env11 W) => uawake_any W hW)
  have HDC := Lib.hid (fun W => udecimal_any 443 (by omega) W)
  have hml := Lib.itoa_length_le 443 (by omega) (by omega)
  obtain ⟨I, hI⟩ : ∃ I : ByteArray, I = ⟨(Lib.itoa 443).toArray⟩ := ⟨_, rfl⟩
  have hIs : I.size ≤ 21 := by rw [hI, mk_size]; omega
  have hIl : I.data.toList = Lib.itoa 443 := by rw [hI]
  rw [← hI] at HDC
  have s0 := part_small ((⟨#[104, 116, 116, 112, 115]⟩ : ByteArray) ++ (⟨#[58, 47, 47]⟩ : ByteArray)) (by simp <;> omega)
  have s1 := part_small (((⟨#[104, 116, 116, 112, 115]⟩ : ByteArray) ++ (⟨#[58, 47, 47]⟩ : ByteArray)) ++ (⟨#[104, 46, 120, 58, 48, 48]⟩ : ByteArray)) (by simp <;> omega)
  have s2 := part_small ((((⟨#[104, 116, 116, 112, 115]⟩ : ByteArray) ++ (⟨#[58, 47, 47]⟩ : ByteArray)) ++ (⟨#[104, 46, 120, 58, 48, 48]⟩ : ByteArray)) ++ I) (by simp [hIl] <;> omega)
  have s3 := part_small (((((⟨#[104, 116, 116, 112, 115]⟩ : ByteArray) ++ (⟨#[58, 47, 47]⟩ : ByteArray)) ++ (⟨#[104, 46, 120, 58, 48, 48]⟩ : ByteArray)) ++ I) ++ (⟨#[47, 97]⟩ : ByteArray)) (by simp [hIl] <;> omega)
  have HX : Hid ((((((⟨#[104, 116, 116, 112, 115]⟩ : ByteArray) ++ (⟨#[58, 47, 47]⟩ : ByteArray)) ++ (⟨#[104, 46, 120, 58, 48, 48]⟩ : ByteArray)) ++ I) ++ (⟨#[47, 97]⟩ : ByteArray)).data.toList = partsT true false false false 443) := Lib.hid (by simp [hIl, partsT, httpsL])
  have HU : Hid (partsU true false false false 443 = ⟨[104, 116, 116, 112, 115], [], [], [104, 46, 120], (-1), [47, 97], false, [], false, []⟩) := Lib.hid (by simp [partsU, httpsL])
  have HP : Hid (∀ W, Env11 W → Calls Tryz.prog 10 #[.string (((((⟨#[104, 116, 116, 112, 115]⟩ : ByteArray) ++ (⟨#[58, 47, 47]⟩ : ByteArray)) ++ (⟨#[104, 46, 120, 58, 48, 48]⟩ : ByteArray)) ++ I) ++ (⟨#[47, 97]⟩ : ByteArray))] W fun e w' => e = .returned (.tuple #[.agg #[.string ⟨#[104, 116, 116, 112, 115]⟩, .string ⟨#[]⟩, .string ⟨#[]⟩, .string ⟨#[104, 46, 120]⟩, .int .i64 (-1), .string ⟨#[47, 97]⟩, .bool false, .string ⟨#[]⟩, .bool false, .string ⟨#[]⟩], .int .i64 0]) ∧ Below W.heap.size W w') := Lib.hid (by
    intro W hW
    have := uparse_any (((((⟨#[104, 116, 116, 112, 115]⟩ : ByteArray) ++ (⟨#[58, 47, 47]⟩ : ByteArray)) ++ (⟨#[104, 46, 120, 58, 48, 48]⟩ : ByteArray)) ++ I) ++ (⟨#[47, 97]⟩ : ByteArray)) (by omega) W hW
    rw [HX.out, parts_url true false false false 443 (by omega), if_pos (by omega), HU.out] at this
    exact this)
  have HPT : Hid (∀ W, Calls Tryz.prog 17 #[.agg #[.string ⟨#[104, 116, 116, 112, 115]⟩, .string ⟨#[]⟩, .string ⟨#[]⟩, .string ⟨#[104, 46, 120]⟩, .int .i64 (-1), .string ⟨#[47, 97]⟩, .bool false, .string ⟨#[]⟩, .bool false, .string ⟨#[]⟩]] W fun e w' => e = .returned (.int .i64 443) ∧ Below W.heap.size W w') := Lib.hid (by
    intro W
    have := uPortU_any ⟨#[104, 116, 116, 112, 115]⟩ ⟨#[]⟩ ⟨#[]⟩ ⟨#[104, 46, 120]⟩ ⟨#[47, 97]⟩ ⟨#[]⟩ ⟨#[]⟩ (-1) false false W
    exact this)
  clear hI hIl hml hE
  go_enter Tryz.func8, Tryz.ntmps8
  go_wp2_with fail
  refine (HDC.out _).mono ?_
  rintro e w1 ⟨rfl, hb1⟩
  have HB1 := Lib.hid hb1
  clear hb1
  go_wp2_with fail
  refine (HP.out _ (env_below HE.out HB1.out)).mono ?_
  rintro e w2 ⟨rfl, hb2⟩
  have HB4 := Lib.hid (below_more (below_more (below_then HB1.out hb2) (.cells #[.string ⟨#[104, 116, 116, 112, 115]⟩, .string ⟨#[]⟩, .string ⟨#[]⟩, .string ⟨#[104, 46, 120]⟩, .int .i64 (-1), .string ⟨#[47, 97]⟩, .bool false, .string ⟨#[]⟩, .bool false, .string ⟨#[]⟩] 24)) (.cells #[.string ⟨#[104, 116, 116, 112, 115]⟩, .string ⟨#[]⟩, .string ⟨#[]⟩, .string ⟨#[104, 46, 120]⟩, .int .i64 (-1), .string ⟨#[47, 97]⟩, .bool false, .string ⟨#[]⟩, .bool false, .string ⟨#[]⟩] 24))
  have HS4 := Lib.hid (Rw.more (Rw.alloc (base := 0) w2 24 #[.string ⟨#[104, 116, 116, 112, 115]⟩, .string ⟨#[]⟩, .string ⟨#[]⟩, .string ⟨#[104, 46, 120]⟩, .int .i64 (-1), .string ⟨#[47, 97]⟩, .bool false, .string ⟨#[]⟩, .bool false, .string ⟨#[]⟩] (Nat.zero_le _)) (.cells #[.string ⟨#[104, 116, 116, 112, 115]⟩, .string ⟨#[]⟩, .string ⟨#[]⟩, .string ⟨#[104, 46, 120]⟩, .int .i64 (-1), .string ⟨#[47, 97]⟩, .bool false, .string ⟨#[]⟩, .bool false, .string ⟨#[]⟩] 24))
  have HR4 := Lib.hid (Rw.alloc (base := 0) (w2.alloc (.cells #[.string ⟨#[104, 116, 116, 112, 115]⟩, .string ⟨#[]⟩, .string ⟨#[]⟩, .string ⟨#[104, 46, 120]⟩, .int .i64 (-1), .string ⟨#[47, 97]⟩, .bool false, .string ⟨#[]⟩, .bool false, .string ⟨#[]⟩] 24)) 24 #[.string ⟨#[104, 116, 116, 112, 115]⟩, .string ⟨#[]⟩, .string ⟨#[]⟩, .string ⟨#[104, 46, 120]⟩, .int .i64 (-1), .string ⟨#[47, 97]⟩, .bool false, .string ⟨#[]⟩, .bool false, .string ⟨#[]⟩] (Nat.zero_le _))
  clear hb2
  have ka0 := Rw.cell HS4.out (j := 0) rfl
  have kb0 := Rw.cell HR4.out (j := 0) rfl
  have ka1 := Rw.cell HS4.out (j := 1) rfl
  have kb1 := Rw.cell HR4.out (j := 1) rfl
  have ka2 := Rw.cell HS4.out (j := 2) rfl
  have kb2 := Rw.cell HR4.out (j := 2) rfl
  have ka3 := Rw.cell HS4.out (j := 3) rfl
  have kb3 := Rw.cell HR4.out (j := 3) rfl
  have ka4 := Rw.cell HS4.out (j := 4) rfl
  have kb4 := Rw.cell HR4.out (j := 4) rfl
  have ka5 := Rw.cell HS4.out (j := 5) rfl
  have kb5 := Rw.cell HR4.out (j := 5) rfl
  have ka6 := Rw.cell HS4.out (j := 6) rfl
  have kb6 := Rw.cell HR4.out (j := 6) rfl
  have ka7 := Rw.cell HS4.out (j := 7) rfl
  have kb7 := Rw.cell HR4.out (j := 7) rfl
  have ka8 := Rw.cell HS4.out (j := 8) rfl
  have kb8 := Rw.cell HR4.out (j := 8) rfl
  have ka9 := Rw.cell HS4.out (j := 9) rfl
  have kb9 := Rw.cell HR4.out (j := 9) rfl
  go_wp2_with fail
  refine (HPT.out _).mono ?_
  rintro e z1 ⟨rfl, hc1⟩
  have HC1 := Lib.hid (below_then HB4.out hc1)
  clear hc1
  go_wp2_with fail
  refine (HAW.out _ (env_below HE.out HC1.out)).mono ?_
  rintro e z2 ⟨rfl, hc2⟩
  have HC2 := Lib.hid (below_then HC1.out hc2)
  clear hc2
  go_wp2_with fail
  go_ret
  exact ⟨rfl, HC2.out⟩

set_option maxHeartbeats 2000000 in
theorem uparts_1000b (p : Int) (hp : 0 ≤ p ∧ p ≤ 65535) (hd : ¬ p = 443) (w : World) (hE : Env11 w) :
    Calls Tryz.prog 8 #[.int .i64 p, .bool false, .bool false, .bool false, .bool true] w fun e w' => e = .returned (.bool true) ∧ Below w.heap.size w w' := by
  have HE := Lib.hid hE
  have HAW := Lib.hid (fun W (hW : Env11 W) => uawake_any W hW)
  have HDC := Lib.hid (fun W => udecimal_any p (by omega) W)
  have hml := Lib.itoa_length_le p (by omega) (by omega)
  obtain ⟨I, hI⟩ : ∃ I : ByteArray, I = ⟨(Lib.itoa p).toArray⟩ := ⟨_, rfl⟩
  have hIs : I.size ≤ 21 := by rw [hI, mk_size]; omega
  have hIl : I.data.toList = Lib.itoa p := by rw [hI]
  rw [← hI] at HDC
  have s0 := part_small ((⟨#[104, 116, 116, 112, 115]⟩ : ByteArray) ++ (⟨#[58, 47, 47]⟩ : ByteArray)) (by simp <;> omega)
  have s1 := part_small (((⟨#[104, 116, 116, 112, 115]⟩ : ByteArray) ++ (⟨#[58, 47, 47]⟩ : ByteArray)) ++ (⟨#[104, 46, 120, 58, 48, 48]⟩ : ByteArray)) (by simp <;> omega)
  have s2 := part_small ((((⟨#[104, 116, 116, 112, 115]⟩ : ByteArray) ++ (⟨#[58, 47, 47]⟩ : ByteArray)) ++ (⟨#[104, 46, 120, 58, 48, 48]⟩ : ByteArray)) ++ I) (by simp [hIl] <;> omega)
  have s3 := part_small (((((⟨#[104, 116, 116, 112, 115]⟩ : ByteArray) ++ (⟨#[58, 47, 47]⟩ : ByteArray)) ++ (⟨#[104, 46, 120, 58, 48, 48]⟩ : ByteArray)) ++ I) ++ (⟨#[47, 97]⟩ : ByteArray)) (by simp [hIl] <;> omega)
  have HX : Hid ((((((⟨#[104, 116, 116, 112, 115]⟩ : ByteArray) ++ (⟨#[58, 47, 47]⟩ : ByteArray)) ++ (⟨#[104, 46, 120, 58, 48, 48]⟩ : ByteArray)) ++ I) ++ (⟨#[47, 97]⟩ : ByteArray)).data.toList = partsT true false false false p) := Lib.hid (by simp [hIl, partsT, httpsL])
  have HU : Hid (partsU true false false false p = ⟨[104, 116, 116, 112, 115], [], [], [104, 46, 120], p, [47, 97], false, [], false, []⟩) := Lib.hid (by simp [partsU, httpsL, hd])
  have HP : Hid (∀ W, Env11 W → Calls Tryz.prog 10 #[.string (((((⟨#[104, 116, 116, 112, 115]⟩ : ByteArray) ++ (⟨#[58, 47, 47]⟩ : ByteArray)) ++ (⟨#[104, 46, 120, 58, 48, 48]⟩ : ByteArray)) ++ I) ++ (⟨#[47, 97]⟩ : ByteArray))] W fun e w' => e = .returned (.tuple #[.agg #[.string ⟨#[104, 116, 116, 112, 115]⟩, .string ⟨#[]⟩, .string ⟨#[]⟩, .string ⟨#[104, 46, 120]⟩, .int .i64 p, .string ⟨#[47, 97]⟩, .bool false, .string ⟨#[]⟩, .bool false, .string ⟨#[]⟩], .int .i64 0]) ∧ Below W.heap.size W w') := Lib.hid (by
    intro W hW
    have := uparse_any (((((⟨#[104, 116, 116, 112, 115]⟩ : ByteArray) ++ (⟨#[58, 47, 47]⟩ : ByteArray)) ++ (⟨#[104, 46, 120, 58, 48, 48]⟩ : ByteArray)) ++ I) ++ (⟨#[47, 97]⟩ : ByteArray)) (by omega) W hW
    rw [HX.out, parts_url true false false false p (by omega), if_pos (by omega), HU.out] at this
    exact this)
  have HPT : Hid (∀ W, Calls Tryz.prog 17 #[.agg #[.string ⟨#[104, 116, 116, 112, 115]⟩, .string ⟨#[]⟩, .string ⟨#[]⟩, .string ⟨#[104, 46, 120]⟩, .int .i64 p, .string ⟨#[47, 97]⟩, .bool false, .string ⟨#[]⟩, .bool false, .string ⟨#[]⟩]] W fun e w' => e = .returned (.int .i64 p) ∧ Below W.heap.size W w') := Lib.hid (by
    intro W
    have := uPortU_any ⟨#[104, 116, 116, 112, 115]⟩ ⟨#[]⟩ ⟨#[]⟩ ⟨#[104, 46, 120]⟩ ⟨#[47, 97]⟩ ⟨#[]⟩ ⟨#[]⟩ p false false W
    rw [if_neg (by omega)] at this
    exact this)
  clear hI hIl hml hE
  go_enter Tryz.func8, Tryz.ntmps8
  go_wp2_with fail
  refine (HDC.out _).mono ?_
  rintro e w1 ⟨rfl, hb1⟩
  have HB1 := Lib.hid hb1
  clear hb1
  go_wp2_with fail
  refine (HP.out _ (env_below HE.out HB1.out)).mono ?_
  rintro e w2 ⟨rfl, hb2⟩
  have HB4 := Lib.hid (below_more (below_more (below_then HB1.out hb2) (.cells #[.string ⟨#[104, 116, 116, 112, 115]⟩, .string ⟨#[]⟩, .string ⟨#[]⟩, .string ⟨#[104, 46, 120]⟩, .int .i64 p, .string ⟨#[47, 97]⟩, .bool false, .string ⟨#[]⟩, .bool false, .string ⟨#[]⟩] 24)) (.cells #[.string ⟨#[104, 116, 116, 112, 115]⟩, .string ⟨#[]⟩, .string ⟨#[]⟩, .string ⟨#[104, 46, 120]⟩, .int .i64 p, .string ⟨#[47, 97]⟩, .bool false, .string ⟨#[]⟩, .bool false, .string ⟨#[]⟩] 24))
  have HS4 := Lib.hid (Rw.more (Rw.alloc (base := 0) w2 24 #[.string ⟨#[104, 116, 116, 112, 115]⟩, .string ⟨#[]⟩, .string ⟨#[]⟩, .string ⟨#[104, 46, 120]⟩, .int .i64 p, .string ⟨#[47, 97]⟩, .bool false, .string ⟨#[]⟩, .bool false, .string ⟨#[]⟩] (Nat.zero_le _)) (.cells #[.string ⟨#[104, 116, 116, 112, 115]⟩, .string ⟨#[]⟩, .string ⟨#[]⟩, .string ⟨#[104, 46, 120]⟩, .int .i64 p, .string ⟨#[47, 97]⟩, .bool false, .string ⟨#[]⟩, .bool false, .string ⟨#[]⟩] 24))
  have HR4 := Lib.hid (Rw.alloc (base := 0) (w2.alloc (.cells #[.string ⟨#[104, 116, 116, 112, 115]⟩, .string ⟨#[]⟩, .string ⟨#[]⟩, .string ⟨#[104, 46, 120]⟩, .int .i64 p, .string ⟨#[47, 97]⟩, .bool false, .string ⟨#[]⟩, .bool false, .string ⟨#[]⟩] 24)) 24 #[.string ⟨#[104, 116, 116, 112, 115]⟩, .string ⟨#[]⟩, .string ⟨#[]⟩, .string ⟨#[104, 46, 120]⟩, .int .i64 p, .string ⟨#[47, 97]⟩, .bool false, .string ⟨#[]⟩, .bool false, .string ⟨#[]⟩] (Nat.zero_le _))
  clear hb2
  have ka0 := Rw.cell HS4.out (j := 0) rfl
  have kb0 := Rw.cell HR4.out (j := 0) rfl
  have ka1 := Rw.cell HS4.out (j := 1) rfl
  have kb1 := Rw.cell HR4.out (j := 1) rfl
  have ka2 := Rw.cell HS4.out (j := 2) rfl
  have kb2 := Rw.cell HR4.out (j := 2) rfl
  have ka3 := Rw.cell HS4.out (j := 3) rfl
  have kb3 := Rw.cell HR4.out (j := 3) rfl
  have ka4 := Rw.cell HS4.out (j := 4) rfl
  have kb4 := Rw.cell HR4.out (j := 4) rfl
  have ka5 := Rw.cell HS4.out (j := 5) rfl
  have kb5 := Rw.cell HR4.out (j := 5) rfl
  have ka6 := Rw.cell HS4.out (j := 6) rfl
  have kb6 := Rw.cell HR4.out (j := 6) rfl
  have ka7 := Rw.cell HS4.out (j := 7) rfl
  have kb7 := Rw.cell HR4.out (j := 7) rfl
  have ka8 := Rw.cell HS4.out (j := 8) rfl
  have kb8 := Rw.cell HR4.out (j := 8) rfl
  have ka9 := Rw.cell HS4.out (j := 9) rfl
  have kb9 := Rw.cell HR4.out (j := 9) rfl
  go_wp2_with fail
  refine (HPT.out _).mono ?_
  rintro e z1 ⟨rfl, hc1⟩
  have HC1 := Lib.hid (below_then HB4.out hc1)
  clear hc1
  go_wp2_with fail
  refine (HAW.out _ (env_below HE.out HC1.out)).mono ?_
  rintro e z2 ⟨rfl, hc2⟩
  have HC2 := Lib.hid (below_then HC1.out hc2)
  clear hc2
  go_wp2_with fail
  go_ret
  exact ⟨rfl, HC2.out⟩

set_option maxHeartbeats 2000000 in
theorem uparts_1000c (p : Int) (hp : 65535 < p ∧ p ≤ 70000) (w : World) (hE : Env11 w) :
    Calls Tryz.prog 8 #[.int .i64 p, .bool false, .bool false, .bool false, .bool true] w fun e w' => e = .returned (.bool true) ∧ Below w.heap.size w w' := by
  have HE := Lib.hid hE
  have HAW := Lib.hid (fun W (hW : Env11 W) => uawake_any W hW)
  have HDC := Lib.hid (fun W => udecimal_any p (by omega) W)
  have hml := Lib.itoa_length_le p (by omega) (by omega)
  obtain ⟨I, hI⟩ : ∃ I : ByteArray, I = ⟨(Lib.itoa p).toArray⟩ := ⟨_, rfl⟩
  have hIs : I.size ≤ 21 := by rw [hI, mk_size]; omega
  have hIl : I.data.toList = Lib.itoa p := by rw [hI]
  rw [← hI] at HDC
  have s0 := part_small ((⟨#[104, 116, 116, 112, 115]⟩ : ByteArray) ++ (⟨#[58, 47, 47]⟩ : ByteArray)) (by simp <;> omega)
  have s1 := part_small (((⟨#[104, 116, 116, 112, 115]⟩ : ByteArray) ++ (⟨#[58, 47, 47]⟩ : ByteArray)) ++ (⟨#[104, 46, 120, 58, 48, 48]⟩ : ByteArray)) (by simp <;> omega)
  have s2 := part_small ((((⟨#[104, 116, 116, 112, 115]⟩ : ByteArray) ++ (⟨#[58, 47, 47]⟩ : ByteArray)) ++ (⟨#[104, 46, 120, 58, 48, 48]⟩ : ByteArray)) ++ I) (by simp [hIl] <;> omega)
  have s3 := part_small (((((⟨#[104, 116, 116, 112, 115]⟩ : ByteArray) ++ (⟨#[58, 47, 47]⟩ : ByteArray)) ++ (⟨#[104, 46, 120, 58, 48, 48]⟩ : ByteArray)) ++ I) ++ (⟨#[47, 97]⟩ : ByteArray)) (by simp [hIl] <;> omega)
  have HX : Hid ((((((⟨#[104, 116, 116, 112, 115]⟩ : ByteArray) ++ (⟨#[58, 47, 47]⟩ : ByteArray)) ++ (⟨#[104, 46, 120, 58, 48, 48]⟩ : ByteArray)) ++ I) ++ (⟨#[47, 97]⟩ : ByteArray)).data.toList = partsT true false false false p) := Lib.hid (by simp [hIl, partsT, httpsL])
  have HP : Hid (∀ W, Env11 W → Calls Tryz.prog 10 #[.string (((((⟨#[104, 116, 116, 112, 115]⟩ : ByteArray) ++ (⟨#[58, 47, 47]⟩ : ByteArray)) ++ (⟨#[104, 46, 120, 58, 48, 48]⟩ : ByteArray)) ++ I) ++ (⟨#[47, 97]⟩ : ByteArray))] W fun e w' => e = .returned (.tuple #[.agg #[.string ⟨#[]⟩, .string ⟨#[]⟩, .string ⟨#[]⟩, .string ⟨#[]⟩, .int .i64 0, .string ⟨#[]⟩, .bool false, .string ⟨#[]⟩, .bool false, .string ⟨#[]⟩], .int .i64 8]) ∧ Below W.heap.size W w') := Lib.hid (by
    intro W hW
    have := uparse_any (((((⟨#[104, 116, 116, 112, 115]⟩ : ByteArray) ++ (⟨#[58, 47, 47]⟩ : ByteArray)) ++ (⟨#[104, 46, 120, 58, 48, 48]⟩ : ByteArray)) ++ I) ++ (⟨#[47, 97]⟩ : ByteArray)) (by omega) W hW
    rw [HX.out, parts_url true false false false p (by omega), if_neg (by omega)] at this
    exact this)
  clear hI hIl hml hE
  go_enter Tryz.func8, Tryz.ntmps8
  go_wp2_with fail
  refine (HDC.out _).mono ?_
  rintro e w1 ⟨rfl, hb1⟩
  have HB1 := Lib.hid hb1
  clear hb1
  go_wp2_with fail
  refine (HP.out _ (env_below HE.out HB1.out)).mono ?_
  rintro e w2 ⟨rfl, hb2⟩
  have HB2 := Lib.hid (below_more (below_then HB1.out hb2) (.cells #[.string ⟨#[]⟩, .string ⟨#[]⟩, .string ⟨#[]⟩, .string ⟨#[]⟩, .int .i64 0, .string ⟨#[]⟩, .bool false, .string ⟨#[]⟩, .bool false, .string ⟨#[]⟩] 24))
  clear hb2
  go_wp2_with fail
  refine (HAW.out _ (env_below HE.out HB2.out)).mono ?_
  rintro e w3 ⟨rfl, hb3⟩
  have HB3 := Lib.hid (below_then HB2.out hb3)
  clear hb3
  go_wp2_with fail
  go_ret
  exact ⟨rfl, HB3.out⟩

set_option maxHeartbeats 2000000 in
theorem uparts_1001a (w : World) (hE : Env11 w) :
    Calls Tryz.prog 8 #[.int .i64 443, .bool false, .bool false, .bool true, .bool true] w fun e w' => e = .returned (.bool true) ∧ Below w.heap.size w w' := by
  have HE := Lib.hid hE
  have HAW := Lib.hid (fun W (hW : Env11 W) => uawake_any W hW)
  have HDC := Lib.hid (fun W => udecimal_any 443 (by omega) W)
  have hml := Lib.itoa_length_le 443 (by omega) (by omega)
  obtain ⟨I, hI⟩ : ∃ I : ByteArray, I = ⟨(Lib.itoa 443).toArray⟩ := ⟨_, rfl⟩
  have hIs : I.size ≤ 21 := by rw [hI, mk_size]; omega
  have hIl : I.data.toList = Lib.itoa 443 := by rw [hI]
  rw [← hI] at HDC
  have s0 := part_small ((⟨#[104, 116, 116, 112, 115]⟩ : ByteArray) ++ (⟨#[58, 47, 47]⟩ : ByteArray)) (by simp <;> omega)
  have s1 := part_small (((⟨#[104, 116, 116, 112, 115]⟩ : ByteArray) ++ (⟨#[58, 47, 47]⟩ : ByteArray)) ++ (⟨#[104, 46, 120, 58, 48, 48]⟩ : ByteArray)) (by simp <;> omega)
  have s2 := part_small ((((⟨#[104, 116, 116, 112, 115]⟩ : ByteArray) ++ (⟨#[58, 47, 47]⟩ : ByteArray)) ++ (⟨#[104, 46, 120, 58, 48, 48]⟩ : ByteArray)) ++ I) (by simp [hIl] <;> omega)
  have s3 := part_small (((((⟨#[104, 116, 116, 112, 115]⟩ : ByteArray) ++ (⟨#[58, 47, 47]⟩ : ByteArray)) ++ (⟨#[104, 46, 120, 58, 48, 48]⟩ : ByteArray)) ++ I) ++ (⟨#[47, 97]⟩ : ByteArray)) (by simp [hIl] <;> omega)
  have s4 := part_small ((((((⟨#[104, 116, 116, 112, 115]⟩ : ByteArray) ++ (⟨#[58, 47, 47]⟩ : ByteArray)) ++ (⟨#[104, 46, 120, 58, 48, 48]⟩ : ByteArray)) ++ I) ++ (⟨#[47, 97]⟩ : ByteArray)) ++ (⟨#[35, 102]⟩ : ByteArray)) (by simp [hIl] <;> omega)
  have HX : Hid (((((((⟨#[104, 116, 116, 112, 115]⟩ : ByteArray) ++ (⟨#[58, 47, 47]⟩ : ByteArray)) ++ (⟨#[104, 46, 120, 58, 48, 48]⟩ : ByteArray)) ++ I) ++ (⟨#[47, 97]⟩ : ByteArray)) ++ (⟨#[35, 102]⟩ : ByteArray)).data.toList = partsT true false false true 443) := Lib.hid (by simp [hIl, partsT, httpsL])
  have HU : Hid (partsU true false false true 443 = ⟨[104, 116, 116, 112, 115], [], [], [104, 46, 120], (-1), [47, 97], false, [], true, [102]⟩) := Lib.hid (by simp [partsU, httpsL])
  have HP : Hid (∀ W, Env11 W → Calls Tryz.prog 10 #[.string ((((((⟨#[104, 116, 116, 112, 115]⟩ : ByteArray) ++ (⟨#[58, 47, 47]⟩ : ByteArray)) ++ (⟨#[104, 46, 120, 58, 48, 48]⟩ : ByteArray)) ++ I) ++ (⟨#[47, 97]⟩ : ByteArray)) ++ (⟨#[35, 102]⟩ : ByteArray))] W fun e w' => e = .returned (.tuple #[.agg #[.string ⟨#[104, 116, 116, 112, 115]⟩, .string ⟨#[]⟩, .string ⟨#[]⟩, .string ⟨#[104, 46, 120]⟩, .int .i64 (-1), .string ⟨#[47, 97]⟩, .bool false, .string ⟨#[]⟩, .bool true, .string ⟨#[102]⟩], .int .i64 0]) ∧ Below W.heap.size W w') := Lib.hid (by
    intro W hW
    have := uparse_any ((((((⟨#[104, 116, 116, 112, 115]⟩ : ByteArray) ++ (⟨#[58, 47, 47]⟩ : ByteArray)) ++ (⟨#[104, 46, 120, 58, 48, 48]⟩ : ByteArray)) ++ I) ++ (⟨#[47, 97]⟩ : ByteArray)) ++ (⟨#[35, 102]⟩ : ByteArray)) (by omega) W hW
    rw [HX.out, parts_url true false false true 443 (by omega), if_pos (by omega), HU.out] at this
    exact this)
  have HPT : Hid (∀ W, Calls Tryz.prog 17 #[.agg #[.string ⟨#[104, 116, 116, 112, 115]⟩, .string ⟨#[]⟩, .string ⟨#[]⟩, .string ⟨#[104, 46, 120]⟩, .int .i64 (-1), .string ⟨#[47, 97]⟩, .bool false, .string ⟨#[]⟩, .bool true, .string ⟨#[102]⟩]] W fun e w' => e = .returned (.int .i64 443) ∧ Below W.heap.size W w') := Lib.hid (by
    intro W
    have := uPortU_any ⟨#[104, 116, 116, 112, 115]⟩ ⟨#[]⟩ ⟨#[]⟩ ⟨#[104, 46, 120]⟩ ⟨#[47, 97]⟩ ⟨#[]⟩ ⟨#[102]⟩ (-1) false true W
    exact this)
  clear hI hIl hml hE
  go_enter Tryz.func8, Tryz.ntmps8
  go_wp2_with fail
  refine (HDC.out _).mono ?_
  rintro e w1 ⟨rfl, hb1⟩
  have HB1 := Lib.hid hb1
  clear hb1
  go_wp2_with fail
  refine (HP.out _ (env_below HE.out HB1.out)).mono ?_
  rintro e w2 ⟨rfl, hb2⟩
  have HB4 := Lib.hid (below_more (below_more (below_then HB1.out hb2) (.cells #[.string ⟨#[104, 116, 116, 112, 115]⟩, .string ⟨#[]⟩, .string ⟨#[]⟩, .string ⟨#[104, 46, 120]⟩, .int .i64 (-1), .string ⟨#[47, 97]⟩, .bool false, .string ⟨#[]⟩, .bool true, .string ⟨#[102]⟩] 24)) (.cells #[.string ⟨#[104, 116, 116, 112, 115]⟩, .string ⟨#[]⟩, .string ⟨#[]⟩, .string ⟨#[104, 46, 120]⟩, .int .i64 (-1), .string ⟨#[47, 97]⟩, .bool false, .string ⟨#[]⟩, .bool true, .string ⟨#[102]⟩] 24))
  have HS4 := Lib.hid (Rw.more (Rw.alloc (base := 0) w2 24 #[.string ⟨#[104, 116, 116, 112, 115]⟩, .string ⟨#[]⟩, .string ⟨#[]⟩, .string ⟨#[104, 46, 120]⟩, .int .i64 (-1), .string ⟨#[47, 97]⟩, .bool false, .string ⟨#[]⟩, .bool true, .string ⟨#[102]⟩] (Nat.zero_le _)) (.cells #[.string ⟨#[104, 116, 116, 112, 115]⟩, .string ⟨#[]⟩, .string ⟨#[]⟩, .string ⟨#[104, 46, 120]⟩, .int .i64 (-1), .string ⟨#[47, 97]⟩, .bool false, .string ⟨#[]⟩, .bool true, .string ⟨#[102]⟩] 24))
  have HR4 := Lib.hid (Rw.alloc (base := 0) (w2.alloc (.cells #[.string ⟨#[104, 116, 116, 112, 115]⟩, .string ⟨#[]⟩, .string ⟨#[]⟩, .string ⟨#[104, 46, 120]⟩, .int .i64 (-1), .string ⟨#[47, 97]⟩, .bool false, .string ⟨#[]⟩, .bool true, .string ⟨#[102]⟩] 24)) 24 #[.string ⟨#[104, 116, 116, 112, 115]⟩, .string ⟨#[]⟩, .string ⟨#[]⟩, .string ⟨#[104, 46, 120]⟩, .int .i64 (-1), .string ⟨#[47, 97]⟩, .bool false, .string ⟨#[]⟩, .bool true, .string ⟨#[102]⟩] (Nat.zero_le _))
  clear hb2
  have ka0 := Rw.cell HS4.out (j := 0) rfl
  have kb0 := Rw.cell HR4.out (j := 0) rfl
  have ka1 := Rw.cell HS4.out (j := 1) rfl
  have kb1 := Rw.cell HR4.out (j := 1) rfl
  have ka2 := Rw.cell HS4.out (j := 2) rfl
  have kb2 := Rw.cell HR4.out (j := 2) rfl
  have ka3 := Rw.cell HS4.out (j := 3) rfl
  have kb3 := Rw.cell HR4.out (j := 3) rfl
  have ka4 := Rw.cell HS4.out (j := 4) rfl
  have kb4 := Rw.cell HR4.out (j := 4) rfl
  have ka5 := Rw.cell HS4.out (j := 5) rfl
  have kb5 := Rw.cell HR4.out (j := 5) rfl
  have ka6 := Rw.cell HS4.out (j := 6) rfl
  have kb6 := Rw.cell HR4.out (j := 6) rfl
  have ka7 := Rw.cell HS4.out (j := 7) rfl
  have kb7 := Rw.cell HR4.out (j := 7) rfl
  have ka8 := Rw.cell HS4.out (j := 8) rfl
  have kb8 := Rw.cell HR4.out (j := 8) rfl
  have ka9 := Rw.cell HS4.out (j := 9) rfl
  have kb9 := Rw.cell HR4.out (j := 9) rfl
  go_wp2_with fail
  refine (HPT.out _).mono ?_
  rintro e z1 ⟨rfl, hc1⟩
  have HC1 := Lib.hid (below_then HB4.out hc1)
  clear hc1
  go_wp2_with fail
  refine (HAW.out _ (env_below HE.out HC1.out)).mono ?_
  rintro e z2 ⟨rfl, hc2⟩
  have HC2 := Lib.hid (below_then HC1.out hc2)
  clear hc2
  go_wp2_with fail
  go_ret
  exact ⟨rfl, HC2.out⟩

set_option maxHeartbeats 2000000 in
theorem uparts_1001b (p : Int) (hp : 0 ≤ p ∧ p ≤ 65535) (hd : ¬ p = 443) (w : World) (hE : Env11 w) :
    Calls Tryz.prog 8 #[.int .i64 p, .bool false, .bool false, .bool true, .bool true] w fun e w' => e = .returned (.bool true) ∧ Below w.heap.size w w' := by
  have HE := Lib.hid hE
  have HAW := Lib.hid (fun W (hW : Env11 W) => uawake_any W hW)
  have HDC := Lib.hid (fun W => udecimal_any p (by omega) W)
  have hml := Lib.itoa_length_le p (by omega) (by omega)
  obtain ⟨I, hI⟩ : ∃ I : ByteArray, I = ⟨(Lib.itoa p).toArray⟩ := ⟨_, rfl⟩
  have hIs : I.size ≤ 21 := by rw [hI, mk_size]; omega
  have hIl : I.data.toList = Lib.itoa p := by rw [hI]
  rw [← hI] at HDC
  have s0 := part_small ((⟨#[104, 116, 116, 112, 115]⟩ : ByteArray) ++ (⟨#[58, 47, 47]⟩ : ByteArray)) (by simp <;> omega)
  have s1 := part_small (((⟨#[104, 116, 116, 112, 115]⟩ : ByteArray) ++ (⟨#[58, 47, 47]⟩ : ByteArray)) ++ (⟨#[104, 46, 120, 58, 48, 48]⟩ : ByteArray)) (by simp <;> omega)
  have s2 := part_small ((((⟨#[104, 116, 116, 112, 115]⟩ : ByteArray) ++ (⟨#[58, 47, 47]⟩ : ByteArray)) ++ (⟨#[104, 46, 120, 58, 48, 48]⟩ : ByteArray)) ++ I) (by simp [hIl] <;> omega)
  have s3 := part_small (((((⟨#[104, 116, 116, 112, 115]⟩ : ByteArray) ++ (⟨#[58, 47, 47]⟩ : ByteArray)) ++ (⟨#[104, 46, 120, 58, 48, 48]⟩ : ByteArray)) ++ I) ++ (⟨#[47, 97]⟩ : ByteArray)) (by simp [hIl] <;> omega)
  have s4 := part_small ((((((⟨#[104, 116, 116, 112, 115]⟩ : ByteArray) ++ (⟨#[58, 47, 47]⟩ : ByteArray)) ++ (⟨#[104, 46, 120, 58, 48, 48]⟩ : ByteArray)) ++ I) ++ (⟨#[47, 97]⟩ : ByteArray)) ++ (⟨#[35, 102]⟩ : ByteArray)) (by simp [hIl] <;> omega)
  have HX : Hid (((((((⟨#[104, 116, 116, 112, 115]⟩ : ByteArray) ++ (⟨#[58, 47, 47]⟩ : ByteArray)) ++ (⟨#[104, 46, 120, 58, 48, 48]⟩ : ByteArray)) ++ I) ++ (⟨#[47, 97]⟩ : ByteArray)) ++ (⟨#[35, 102]⟩ : ByteArray)).data.toList = partsT true false false true p) := Lib.hid (by simp [hIl, partsT, httpsL])
  have HU : Hid (partsU true false false true p = ⟨[104, 116, 116, 112, 115], [], [], [104, 46, 120], p, [47, 97], false, [], true, [102]⟩) := Lib.hid (by simp [partsU, httpsL, hd])
  have HP : Hid (∀ W, Env11 W → Calls Tryz.prog 10 #[.string ((((((⟨#[104, 116, 116, 112, 115]⟩ : ByteArray) ++ (⟨#[58, 47, 47]⟩ : ByteArray)) ++ (⟨#[104, 46, 120, 58, 48, 48]⟩ : ByteArray)) ++ I) ++ (⟨#[47, 97]⟩ : ByteArray)) ++ (⟨#[35, 102]⟩ : ByteArray))] W fun e w' => e = .returned (.tuple #[.agg #[.string ⟨#[104, 116, 116, 112, 115]⟩, .string ⟨#[]⟩, .string ⟨#[]⟩, .string ⟨#[104, 46, 120]⟩, .int .i64 p, .string ⟨#[47, 97]⟩, .bool false, .string ⟨#[]⟩, .bool true, .string ⟨#[102]⟩], .int .i64 0]) ∧ Below W.heap.size W w') := Lib.hid (by
    intro W hW
    have := uparse_any ((((((⟨#[104, 116, 116, 112, 115]⟩ : ByteArray) ++ (⟨#[58, 47, 47]⟩ : ByteArray)) ++ (⟨#[104, 46, 120, 58, 48, 48]⟩ : ByteArray)) ++ I) ++ (⟨#[47, 97]⟩ : ByteArray)) ++ (⟨#[35, 102]⟩ : ByteArray)) (by omega) W hW
    rw [HX.out, parts_url true false false true p (by omega), if_pos (by omega), HU.out] at this
    exact this)
  have HPT : Hid (∀ W, Calls Tryz.prog 17 #[.agg #[.string ⟨#[104, 116, 116, 112, 115]⟩, .string ⟨#[]⟩, .string ⟨#[]⟩, .string ⟨#[104, 46, 120]⟩, .int .i64 p, .string ⟨#[47, 97]⟩, .bool false, .string ⟨#[]⟩, .bool true, .string ⟨#[102]⟩]] W fun e w' => e = .returned (.int .i64 p) ∧ Below W.heap.size W w') := Lib.hid (by
    intro W
    have := uPortU_any ⟨#[104, 116, 116, 112, 115]⟩ ⟨#[]⟩ ⟨#[]⟩ ⟨#[104, 46, 120]⟩ ⟨#[47, 97]⟩ ⟨#[]⟩ ⟨#[102]⟩ p false true W
    rw [if_neg (by omega)] at this
    exact this)
  clear hI hIl hml hE
  go_enter Tryz.func8, Tryz.ntmps8
  go_wp2_with fail
  refine (HDC.out _).mono ?_
  rintro e w1 ⟨rfl, hb1⟩
  have HB1 := Lib.hid hb1
  clear hb1
  go_wp2_with fail
  refine (HP.out _ (env_below HE.out HB1.out)).mono ?_
  rintro e w2 ⟨rfl, hb2⟩
  have HB4 := Lib.hid (below_more (below_more (below_then HB1.out hb2) (.cells #[.string ⟨#[104, 116, 116, 112, 115]⟩, .string ⟨#[]⟩, .string ⟨#[]⟩, .string ⟨#[104, 46, 120]⟩, .int .i64 p, .string ⟨#[47, 97]⟩, .bool false, .string ⟨#[]⟩, .bool true, .string ⟨#[102]⟩] 24)) (.cells #[.string ⟨#[104, 116, 116, 112, 115]⟩, .string ⟨#[]⟩, .string ⟨#[]⟩, .string ⟨#[104, 46, 120]⟩, .int .i64 p, .string ⟨#[47, 97]⟩, .bool false, .string ⟨#[]⟩, .bool true, .string ⟨#[102]⟩] 24))
  have HS4 := Lib.hid (Rw.more (Rw.alloc (base := 0) w2 24 #[.string ⟨#[104, 116, 116, 112, 115]⟩, .string ⟨#[]⟩, .string ⟨#[]⟩, .string ⟨#[104, 46, 120]⟩, .int .i64 p, .string ⟨#[47, 97]⟩, .bool false, .string ⟨#[]⟩, .bool true, .string ⟨#[102]⟩] (Nat.zero_le _)) (.cells #[.string ⟨#[104, 116, 116, 112, 115]⟩, .string ⟨#[]⟩, .string ⟨#[]⟩, .string ⟨#[104, 46, 120]⟩, .int .i64 p, .string ⟨#[47, 97]⟩, .bool false, .string ⟨#[]⟩, .bool true, .string ⟨#[102]⟩] 24))
  have HR4 := Lib.hid (Rw.alloc (base := 0) (w2.alloc (.cells #[.string ⟨#[104, 116, 116, 112, 115]⟩, .string ⟨#[]⟩, .string ⟨#[]⟩, .string ⟨#[104, 46, 120]⟩, .int .i64 p, .string ⟨#[47, 97]⟩, .bool false, .string ⟨#[]⟩, .bool true, .string ⟨#[102]⟩] 24)) 24 #[.string ⟨#[104, 116, 116, 112, 115]⟩, .string ⟨#[]⟩, .string ⟨#[]⟩, .string ⟨#[104, 46, 120]⟩, .int .i64 p, .string ⟨#[47, 97]⟩, .bool false, .string ⟨#[]⟩, .bool true, .string ⟨#[102]⟩] (Nat.zero_le _))
  clear hb2
  have ka0 := Rw.cell HS4.out (j := 0) rfl
  have kb0 := Rw.cell HR4.out (j := 0) rfl
  have ka1 := Rw.cell HS4.out (j := 1) rfl
  have kb1 := Rw.cell HR4.out (j := 1) rfl
  have ka2 := Rw.cell HS4.out (j := 2) rfl
  have kb2 := Rw.cell HR4.out (j := 2) rfl
  have ka3 := Rw.cell HS4.out (j := 3) rfl
  have kb3 := Rw.cell HR4.out (j := 3) rfl
  have ka4 := Rw.cell HS4.out (j := 4) rfl
  have kb4 := Rw.cell HR4.out (j := 4) rfl
  have ka5 := Rw.cell HS4.out (j := 5) rfl
  have kb5 := Rw.cell HR4.out (j := 5) rfl
  have ka6 := Rw.cell HS4.out (j := 6) rfl
  have kb6 := Rw.cell HR4.out (j := 6) rfl
  have ka7 := Rw.cell HS4.out (j := 7) rfl
  have kb7 := Rw.cell HR4.out (j := 7) rfl
  have ka8 := Rw.cell HS4.out (j := 8) rfl
  have kb8 := Rw.cell HR4.out (j := 8) rfl
  have ka9 := Rw.cell HS4.out (j := 9) rfl
  have kb9 := Rw.cell HR4.out (j := 9) rfl
  go_wp2_with fail
  refine (HPT.out _).mono ?_
  rintro e z1 ⟨rfl, hc1⟩
  have HC1 := Lib.hid (below_then HB4.out hc1)
  clear hc1
  go_wp2_with fail
  refine (HAW.out _ (env_below HE.out HC1.out)).mono ?_
  rintro e z2 ⟨rfl, hc2⟩
  have HC2 := Lib.hid (below_then HC1.out hc2)
  clear hc2
  go_wp2_with fail
  go_ret
  exact ⟨rfl, HC2.out⟩

set_option maxHeartbeats 2000000 in
theorem uparts_1001c (p : Int) (hp : 65535 < p ∧ p ≤ 70000) (w : World) (hE : Env11 w) :
    Calls Tryz.prog 8 #[.int .i64 p, .bool false, .bool false, .bool true, .bool true] w fun e w' => e = .returned (.bool true) ∧ Below w.heap.size w w' := by
  have HE := Lib.hid hE
  have HAW := Lib.hid (fun W (hW : Env11 W) => uawake_any W hW)
  have HDC := Lib.hid (fun W => udecimal_any p (by omega) W)
  have hml := Lib.itoa_length_le p (by omega) (by omega)
  obtain ⟨I, hI⟩ : ∃ I : ByteArray, I = ⟨(Lib.itoa p).toArray⟩ := ⟨_, rfl⟩
  have hIs : I.size ≤ 21 := by rw [hI, mk_size]; omega
  have hIl : I.data.toList = Lib.itoa p := by rw [hI]
  rw [← hI] at HDC
  have s0 := part_small ((⟨#[104, 116, 116, 112, 115]⟩ : ByteArray) ++ (⟨#[58, 47, 47]⟩ : ByteArray)) (by simp <;> omega)
  have s1 := part_small (((⟨#[104, 116, 116, 112, 115]⟩ : ByteArray) ++ (⟨#[58, 47, 47]⟩ : ByteArray)) ++ (⟨#[104, 46, 120, 58, 48, 48]⟩ : ByteArray)) (by simp <;> omega)
  have s2 := part_small ((((⟨#[104, 116, 116, 112, 115]⟩ : ByteArray) ++ (⟨#[58, 47, 47]⟩ : ByteArray)) ++ (⟨#[104, 46, 120, 58, 48, 48]⟩ : ByteArray)) ++ I) (by simp [hIl] <;> omega)
  have s3 := part_small (((((⟨#[104, 116, 116, 112, 115]⟩ : ByteArray) ++ (⟨#[58, 47, 47]⟩ : ByteArray)) ++ (⟨#[104, 46, 120, 58, 48, 48]⟩ : ByteArray)) ++ I) ++ (⟨#[47, 97]⟩ : ByteArray)) (by simp [hIl] <;> omega)
  have s4 := part_small ((((((⟨#[104, 116, 116, 112, 115]⟩ : ByteArray) ++ (⟨#[58, 47, 47]⟩ : ByteArray)) ++ (⟨#[104, 46, 120, 58, 48, 48]⟩ : ByteArray)) ++ I) ++ (⟨#[47, 97]⟩ : ByteArray)) ++ (⟨#[35, 102]⟩ : ByteArray)) (by simp [hIl] <;> omega)
  have HX : Hid (((((((⟨#[104, 116, 116, 112, 115]⟩ : ByteArray) ++ (⟨#[58, 47, 47]⟩ : ByteArray)) ++ (⟨#[104, 46, 120, 58, 48, 48]⟩ : ByteArray)) ++ I) ++ (⟨#[47, 97]⟩ : ByteArray)) ++ (⟨#[35, 102]⟩ : ByteArray)).data.toList = partsT true false false true p) := Lib.hid (by simp [hIl, partsT, httpsL])
  have HP : Hid (∀ W, Env11 W → Calls Tryz.prog 10 #[.string ((((((⟨#[104, 116, 116, 112, 115]⟩ : ByteArray) ++ (⟨#[58, 47, 47]⟩ : ByteArray)) ++ (⟨#[104, 46, 120, 58, 48, 48]⟩ : ByteArray)) ++ I) ++ (⟨#[47, 97]⟩ : ByteArray)) ++ (⟨#[35, 102]⟩ : ByteArray))] W fun e w' => e = .returned (.tuple #[.agg #[.string ⟨#[]⟩, .string ⟨#[]⟩, .string ⟨#[]⟩, .string ⟨#[]⟩, .int .i64 0, .string ⟨#[]⟩, .bool false, .string ⟨#[]⟩, .bool false, .string ⟨#[]⟩], .int .i64 8]) ∧ Below W.heap.size W w') := Lib.hid (by
    intro W hW
    have := uparse_any ((((((⟨#[104, 116, 116, 112, 115]⟩ : ByteArray) ++ (⟨#[58, 47, 47]⟩ : ByteArray)) ++ (⟨#[104, 46, 120, 58, 48, 48]⟩ : ByteArray)) ++ I) ++ (⟨#[47, 97]⟩ : ByteArray)) ++ (⟨#[35, 102]⟩ : ByteArray)) (by omega) W hW
    rw [HX.out, parts_url true false false true p (by omega), if_neg (by omega)] at this
    exact this)
  clear hI hIl hml hE
  go_enter Tryz.func8, Tryz.ntmps8
  go_wp2_with fail
  refine (HDC.out _).mono ?_
  rintro e w1 ⟨rfl, hb1⟩
  have HB1 := Lib.hid hb1
  clear hb1
  go_wp2_with fail
  refine (HP.out _ (env_below HE.out HB1.out)).mono ?_
  rintro e w2 ⟨rfl, hb2⟩
  have HB2 := Lib.hid (below_more (below_then HB1.out hb2) (.cells #[.string ⟨#[]⟩, .string ⟨#[]⟩, .string ⟨#[]⟩, .string ⟨#[]⟩, .int .i64 0, .string ⟨#[]⟩, .bool false, .string ⟨#[]⟩, .bool false, .string ⟨#[]⟩] 24))
  clear hb2
  go_wp2_with fail
  refine (HAW.out _ (env_below HE.out HB2.out)).mono ?_
  rintro e w3 ⟨rfl, hb3⟩
  have HB3 := Lib.hid (below_then HB2.out hb3)
  clear hb3
  go_wp2_with fail
  go_ret
  exact ⟨rfl, HB3.out⟩

set_option maxHeartbeats 2000000 in
theorem uparts_1010a (w : World) (hE : Env11 w) :
    Calls Tryz.prog 8 #[.int .i64 443, .bool false, .bool true, .bool false, .bool true] w fun e w' => e = .returned (.bool true) ∧ Below w.heap.size w w' := by
  have HE := Lib.hid hE
  have HAW := Lib.hid (fun W (hW : Env11 W) => uawake_any W hW)
  have HDC := Lib.hid (fun W => udecimal_any 443 (by omega) W)
  have hml := Lib.itoa_length_le 443 (by omega) (by omega)
  obtain ⟨I, hI⟩ : ∃ I : ByteArray, I = ⟨(Lib.itoa 443).toArray⟩ := ⟨_, rfl⟩
  have hIs : I.size ≤ 21 := by rw [hI, mk_size]; omega
  have hIl : I.data.toList = Lib.itoa 443 := by rw [hI]
  rw [← hI] at HDC
  have s0 := part_small ((⟨#[104, 116, 116, 112, 115]⟩ : ByteArray) ++ (⟨#[58, 47, 47]⟩ : ByteArray)) (by simp <;> omega)
  have s1 := part_small (((⟨#[104, 116, 116, 112, 115]⟩ : ByteArray) ++ (⟨#[58, 47, 47]⟩ : ByteArray)) ++ (⟨#[104, 46, 120, 58, 48, 48]⟩ : ByteArray)) (by simp <;> omega)
  have s2 := part_small ((((⟨#[104, 116, 116, 112, 115]⟩ : ByteArray) ++ (⟨#[58, 47, 47]⟩ : ByteArray)) ++ (⟨#[104, 46, 120, 58, 48, 48]⟩ : ByteArray)) ++ I) (by simp [hIl] <;> omega)
  have s3 := part_small (((((⟨#[104, 116, 116, 112, 115]⟩ : ByteArray) ++ (⟨#[58, 47, 47]⟩ : ByteArray)) ++ (⟨#[104, 46, 120, 58, 48, 48]⟩ : ByteArray)) ++ I) ++ (⟨#[47, 97]⟩ : ByteArray)) (by simp [hIl] <;> omega)
  have s4 := part_small ((((((⟨#[104, 116, 116, 112, 115]⟩ : ByteArray) ++ (⟨#[58, 47, 47]⟩ : ByteArray)) ++ (⟨#[104, 46, 120, 58, 48, 48]⟩ : ByteArray)) ++ I) ++ (⟨#[47, 97]⟩ : ByteArray)) ++ (⟨#[63, 113]⟩ : ByteArray)) (by simp [hIl] <;> omega)
  have HX : Hid (((((((⟨#[104, 116, 116, 112, 115]⟩ : ByteArray) ++ (⟨#[58, 47, 47]⟩ : ByteArray)) ++ (⟨#[104, 46, 120, 58, 48, 48]⟩ : ByteArray)) ++ I) ++ (⟨#[47, 97]⟩ : ByteArray)) ++ (⟨#[63, 113]⟩ : ByteArray)).data.toList = partsT true false true false 443) := Lib.hid (by simp [hIl, partsT, httpsL])
  have HU : Hid (partsU true false true false 443 = ⟨[104, 116, 116, 112, 115], [], [], [104, 46, 120], (-1), [47, 97], true, [113], false, []⟩) := Lib.hid (by simp [partsU, httpsL])
  have HP : Hid (∀ W, Env11 W → Calls Tryz.prog 10 #[.string ((((((⟨#[104, 116, 116, 112, 115]⟩ : ByteArray) ++ (⟨#[58, 47, 47]⟩ : ByteArray)) ++ (⟨#[104, 46, 120, 58, 48, 48]⟩ : ByteArray)) ++ I) ++ (⟨#[47, 97]⟩ : ByteArray)) ++ (⟨#[63, 113]⟩ : ByteArray))] W fun e w' => e = .returned (.tuple #[.agg #[.string ⟨#[104, 116, 116, 112, 115]⟩, .string ⟨#[]⟩, .string ⟨#[]⟩, .string ⟨#[104, 46, 120]⟩, .int .i64 (-1), .string ⟨#[47, 97]⟩, .bool true, .string ⟨#[113]⟩, .bool false, .string ⟨#[]⟩], .int .i64 0]) ∧ Below W.heap.size W w') := Lib.hid (by
    intro W hW
    have := uparse_any ((((((⟨#[104, 116, 116, 112, 115]⟩ : ByteArray) ++ (⟨#[58, 47, 47]⟩ : ByteArray)) ++ (⟨#[104, 46, 120, 58, 48, 48]⟩ : ByteArray)) ++ I) ++ (⟨#[47, 97]⟩ : ByteArray)) ++ (⟨#[63, 113]⟩ : ByteArray)) (by omega) W hW
    rw [HX.out, parts_url true false true false 443 (by omega), if_pos (by omega), HU.out] at this
    exact this)
  have HPT : Hid (∀ W, Calls Tryz.prog 17 #[.agg #[.string ⟨#[104, 116, 116, 112, 115]⟩, .string ⟨#[]⟩, .string ⟨#[]⟩, .string ⟨#[104, 46, 120]⟩, .int .i64 (-1), .string ⟨#[47, 97]⟩, .bool true, .string ⟨#[113]⟩, .bool false, .string ⟨#[]⟩]] W fun e w' => e = .returned (.int .i64 443) ∧ Below W.heap.size W w') := Lib.hid (by
    intro W
    have := uPortU_any ⟨#[104, 116, 116, 112, 115]⟩ ⟨#[]⟩ ⟨#[]⟩ ⟨#[104, 46, 120]⟩ ⟨#[47, 97]⟩ ⟨#[113]⟩ ⟨#[]⟩ (-1) true false W
    exact this)
  clear hI hIl hml hE
  go_enter Tryz.func8, Tryz.ntmps8
  go_wp2_with fail
  refine (HDC.out _).mono ?_
  rintro e w1 ⟨rfl, hb1⟩
  have HB1 := Lib.hid hb1
  clear hb1
  go_wp2_with fail
  refine (HP.out _ (env_below HE.out HB1.out)).mono ?_
  rintro e w2 ⟨rfl, hb2⟩
  have HB4 := Lib.hid (below_more (below_more (below_then HB1.out hb2) (.cells #[.string ⟨#[104, 116, 116, 112, 115]⟩, .string ⟨#[]⟩, .string ⟨#[]⟩, .string ⟨#[104, 46, 120]⟩, .int .i64 (-1), .string ⟨#[47, 97]⟩, .bool true, .string ⟨#[113]⟩, .bool false, .string ⟨#[]⟩] 24)) (.cells #[.string ⟨#[104, 116, 116, 112, 115]⟩, .string ⟨#[]⟩, .string ⟨#[]⟩, .string ⟨#[104, 46, 120]⟩, .int .i64 (-1), .string ⟨#[47, 97]⟩, .bool true, .string ⟨#[113]⟩, .bool false, .string ⟨#[]⟩] 24))
  have HS4 := Lib.hid (Rw.more (Rw.alloc (base := 0) w2 24 #[.string ⟨#[104, 116, 116, 112, 115]⟩, .string ⟨#[]⟩, .string ⟨#[]⟩, .string ⟨#[104, 46, 120]⟩, .int .i64 (-1), .string ⟨#[47, 97]⟩, .bool true, .string ⟨#[113]⟩, .bool false, .string ⟨#[]⟩] (Nat.zero_le _)) (.cells #[.string ⟨#[104, 116, 116, 112, 115]⟩, .string ⟨#[]⟩, .string ⟨#[]⟩, .string ⟨#[104, 46, 120]⟩, .int .i64 (-1), .string ⟨#[47, 97]⟩, .bool true, .string ⟨#[113]⟩, .bool false, .string ⟨#[]⟩] 24))
  have HR4 := Lib.hid (Rw.alloc (base := 0) (w2.alloc (.cells #[.string ⟨#[104, 116, 116, 112, 115]⟩, .string ⟨#[]⟩, .string ⟨#[]⟩, .string ⟨#[104, 46, 120]⟩, .int .i64 (-1), .string ⟨#[47, 97]⟩, .bool true, .string ⟨#[113]⟩, .bool false, .string ⟨#[]⟩] 24)) 24 #[.string ⟨#[104, 116, 116, 112, 115]⟩, .string ⟨#[]⟩, .string ⟨#[]⟩, .string ⟨#[104, 46, 120]⟩, .int .i64 (-1), .string ⟨#[47, 97]⟩, .bool true, .string ⟨#[113]⟩, .bool false, .string ⟨#[]⟩] (Nat.zero_le _))
  clear hb2
  have ka0 := Rw.cell HS4.out (j := 0) rfl
  have kb0 := Rw.cell HR4.out (j := 0) rfl
  have ka1 := Rw.cell HS4.out (j := 1) rfl
  have kb1 := Rw.cell HR4.out (j := 1) rfl
  have ka2 := Rw.cell HS4.out (j := 2) rfl
  have kb2 := Rw.cell HR4.out (j := 2) rfl
  have ka3 := Rw.cell HS4.out (j := 3) rfl
  have kb3 := Rw.cell HR4.out (j := 3) rfl
  have ka4 := Rw.cell HS4.out (j := 4) rfl
  have kb4 := Rw.cell HR4.out (j := 4) rfl
  have ka5 := Rw.cell HS4.out (j := 5) rfl
  have kb5 := Rw.cell HR4.out (j := 5) rfl
  have ka6 := Rw.cell HS4.out (j := 6) rfl
  have kb6 := Rw.cell HR4.out (j := 6) rfl
  have ka7 := Rw.cell HS4.out (j := 7) rfl
  have kb7 := Rw.cell HR4.out (j := 7) rfl
  have ka8 := Rw.cell HS4.out (j := 8) rfl
  have kb8 := Rw.cell HR4.out (j := 8) rfl
  have ka9 := Rw.cell HS4.out (j := 9) rfl
  have kb9 := Rw.cell HR4.out (j := 9) rfl
  go_wp2_with fail
  refine (HPT.out _).mono ?_
  rintro e z1 ⟨rfl, hc1⟩
  have HC1 := Lib.hid (below_then HB4.out hc1)
  clear hc1
  go_wp2_with fail
  refine (HAW.out _ (env_below HE.out HC1.out)).mono ?_
  rintro e z2 ⟨rfl, hc2⟩
  have HC2 := Lib.hid (below_then HC1.out hc2)
  clear hc2
  go_wp2_with fail
  go_ret
  exact ⟨rfl, HC2.out⟩

set_option maxHeartbeats 2000000 in
theorem uparts_1010b (p : Int) (hp : 0 ≤ p ∧ p ≤ 65535) (hd : ¬ p = 443) (w : World) (hE : Env11 w) :
    Calls Tryz.prog 8 #[.int .i64 p, .bool false, .bool true, .bool false, .bool true] w fun e w' => e = .returned (.bool true) ∧ Below w.heap.size w w' := by
  have HE := Lib.hid hE
  have HAW := Lib.hid (fun W (hW : Env11 W) => uawake_any W hW)
  have HDC := Lib.hid (fun W => udecimal_any p (by omega) W)
  have hml := Lib.itoa_length_le p (by omega) (by omega)
  obtain ⟨I, hI⟩ : ∃ I : ByteArray, I = ⟨(Lib.itoa p).toArray⟩ := ⟨_, rfl⟩
  have hIs : I.size ≤ 21 := by rw [hI, mk_size]; omega
  have hIl : I.data.toList = Lib.itoa p := by rw [hI]
  rw [← hI] at HDC
  have s0 := part_small ((⟨#[104, 116, 116, 112, 115]⟩ : ByteArray) ++ (⟨#[58, 47, 47]⟩ : ByteArray)) (by simp <;> omega)
  have s1 := part_small (((⟨#[104, 116, 116, 112, 115]⟩ : ByteArray) ++ (⟨#[58, 47, 47]⟩ : ByteArray)) ++ (⟨#[104, 46, 120, 58, 48, 48]⟩ : ByteArray)) (by simp <;> omega)
  have s2 := part_small ((((⟨#[104, 116, 116, 112, 115]⟩ : ByteArray) ++ (⟨#[58, 47, 47]⟩ : ByteArray)) ++ (⟨#[104, 46, 120, 58, 48, 48]⟩ : ByteArray)) ++ I) (by simp [hIl] <;> omega)
  have s3 := part_small (((((⟨#[104, 116, 116, 112, 115]⟩ : ByteArray) ++ (⟨#[58, 47, 47]⟩ : ByteArray)) ++ (⟨#[104, 46, 120, 58, 48, 48]⟩ : ByteArray)) ++ I) ++ (⟨#[47, 97]⟩ : ByteArray)) (by simp [hIl] <;> omega)
  have s4 := part_small ((((((⟨#[104, 116, 116, 112, 115]⟩ : ByteArray) ++ (⟨#[58, 47, 47]⟩ : ByteArray)) ++ (⟨#[104, 46, 120, 58, 48, 48]⟩ : ByteArray)) ++ I) ++ (⟨#[47, 97]⟩ : ByteArray)) ++ (⟨#[63, 113]⟩ : ByteArray)) (by simp [hIl] <;> omega)
  have HX : Hid (((((((⟨#[104, 116, 116, 112, 115]⟩ : ByteArray) ++ (⟨#[58, 47, 47]⟩ : ByteArray)) ++ (⟨#[104, 46, 120, 58, 48, 48]⟩ : ByteArray)) ++ I) ++ (⟨#[47, 97]⟩ : ByteArray)) ++ (⟨#[63, 113]⟩ : ByteArray)).data.toList = partsT true false true false p) := Lib.hid (by simp [hIl, partsT, httpsL])
  have HU : Hid (partsU true false true false p = ⟨[104, 116, 116, 112, 115], [], [], [104, 46, 120], p, [47, 97], true, [113], false, []⟩) := Lib.hid (by simp [partsU, httpsL, hd])
  have HP : Hid (∀ W, Env11 W → Calls Tryz.prog 10 #[.string ((((((⟨#[104, 116, 116, 112, 115]⟩ : ByteArray) ++ (⟨#[58, 47, 47]⟩ : ByteArray)) ++ (⟨#[104, 46, 120, 58, 48, 48]⟩ : ByteArray)) ++ I) ++ (⟨#[47, 97]⟩ : ByteArray)) ++ (⟨#[63, 113]⟩ : ByteArray))] W fun e w' => e = .returned (.tuple #[.agg #[.string ⟨#[104, 116, 116, 112, 115]⟩, .string ⟨#[]⟩, .string ⟨#[]⟩, .string ⟨#[104, 46, 120]⟩, .int .i64 p, .string ⟨#[47, 97]⟩, .bool true, .string ⟨#[113]⟩, .bool false, .string ⟨#[]⟩], .int .i64 0]) ∧ Below W.heap.size W w') := Lib.hid (by
    intro W hW
    have := uparse_any ((((((⟨#[104, 116, 116, 112, 115]⟩ : ByteArray) ++ (⟨#[58, 47, 47]⟩ : ByteArray)) ++ (⟨#[104, 46, 120, 58, 48, 48]⟩ : ByteArray)) ++ I) ++ (⟨#[47, 97]⟩ : ByteArray)) ++ (⟨#[63, 113]⟩ : ByteArray)) (by omega) W hW
    rw [HX.out, parts_url true false true false p (by omega), if_pos (by omega), HU.out] at this
    exact this)
  have HPT : Hid (∀ W, Calls Tryz.prog 17 #[.agg #[.string ⟨#[104, 116, 116, 112, 115]⟩, .string ⟨#[]⟩, .string ⟨#[]⟩, .string ⟨#[104, 46, 120]⟩, .int .i64 p, .string ⟨#[47, 97]⟩, .bool true, .string ⟨#[113]⟩, .bool false, .string ⟨#[]⟩]] W fun e w' => e = .returned (.int .i64 p) ∧ Below W.heap.size W w') := Lib.hid (by
    intro W
    have := uPortU_any ⟨#[104, 116, 116, 112, 115]⟩ ⟨#[]⟩ ⟨#[]⟩ ⟨#[104, 46, 120]⟩ ⟨#[47, 97]⟩ ⟨#[113]⟩ ⟨#[]⟩ p true false W
    rw [if_neg (by omega)] at this
    exact this)
  clear hI hIl hml hE
  go_enter Tryz.func8, Tryz.ntmps8
  go_wp2_with fail
  refine (HDC.out _).mono ?_
  rintro e w1 ⟨rfl, hb1⟩
  have HB1 := Lib.hid hb1
  clear hb1
  go_wp2_with fail
  refine (HP.out _ (env_below HE.out HB1.out)).mono ?_
  rintro e w2 ⟨rfl, hb2⟩
  have HB4 := Lib.hid (below_more (below_more (below_then HB1.out hb2) (.cells #[.string ⟨#[104, 116, 116, 112, 115]⟩, .string ⟨#[]⟩, .string ⟨#[]⟩, .string ⟨#[104, 46, 120]⟩, .int .i64 p, .string ⟨#[47, 97]⟩, .bool true, .string ⟨#[113]⟩, .bool false, .string ⟨#[]⟩] 24)) (.cells #[.string ⟨#[104, 116, 116, 112, 115]⟩, .string ⟨#[]⟩, .string ⟨#[]⟩, .string ⟨#[104, 46, 120]⟩, .int .i64 p, .string ⟨#[47, 97]⟩, .bool true, .string ⟨#[113]⟩, .bool false, .string ⟨#[]⟩] 24))
  have HS4 := Lib.hid (Rw.more (Rw.alloc (base := 0) w2 24 #[.string ⟨#[104, 116, 116, 112, 115]⟩, .string ⟨#[]⟩, .string ⟨#[]⟩, .string ⟨#[104, 46, 120]⟩, .int .i64 p, .string ⟨#[47, 97]⟩, .bool true, .string ⟨#[113]⟩, .bool false, .string ⟨#[]⟩] (Nat.zero_le _)) (.cells #[.string ⟨#[104, 116, 116, 112, 115]⟩, .string ⟨#[]⟩, .string ⟨#[]⟩, .string ⟨#[104, 46, 120]⟩, .int .i64 p, .string ⟨#[47, 97]⟩, .bool true, .string ⟨#[113]⟩, .bool false, .string ⟨#[]⟩] 24))
  have HR4 := Lib.hid (Rw.alloc (base := 0) (w2.alloc (.cells #[.string ⟨#[104, 116, 116, 112, 115]⟩, .string ⟨#[]⟩, .string ⟨#[]⟩, .string ⟨#[104, 46, 120]⟩, .int .i64 p, .string ⟨#[47, 97]⟩, .bool true, .string ⟨#[113]⟩, .bool false, .string ⟨#[]⟩] 24)) 24 #[.string ⟨#[104, 116, 116, 112, 115]⟩, .string ⟨#[]⟩, .string ⟨#[]⟩, .string ⟨#[104, 46, 120]⟩, .int .i64 p, .string ⟨#[47, 97]⟩, .bool true, .string ⟨#[113]⟩, .bool false, .string ⟨#[]⟩] (Nat.zero_le _))
  clear hb2
  have ka0 := Rw.cell HS4.out (j := 0) rfl
  have kb0 := Rw.cell HR4.out (j := 0) rfl
  have ka1 := Rw.cell HS4.out (j := 1) rfl
  have kb1 := Rw.cell HR4.out (j := 1) rfl
  have ka2 := Rw.cell HS4.out (j := 2) rfl
  have kb2 := Rw.cell HR4.out (j := 2) rfl
  have ka3 := Rw.cell HS4.out (j := 3) rfl
  have kb3 := Rw.cell HR4.out (j := 3) rfl
  have ka4 := Rw.cell HS4.out (j := 4) rfl
  have kb4 := Rw.cell HR4.out (j := 4) rfl
  have ka5 := Rw.cell HS4.out (j := 5) rfl
  have kb5 := Rw.cell HR4.out (j := 5) rfl
  have ka6 := Rw.cell HS4.out (j := 6) rfl
  have kb6 := Rw.cell HR4.out (j := 6) rfl
  have ka7 := Rw.cell HS4.out (j := 7) rfl
  have kb7 := Rw.cell HR4.out (j := 7) rfl
  have ka8 := Rw.cell HS4.out (j := 8) rfl
  have kb8 := Rw.cell HR4.out (j := 8) rfl
  have ka9 := Rw.cell HS4.out (j := 9) rfl
  have kb9 := Rw.cell HR4.out (j := 9) rfl
  go_wp2_with fail
  refine (HPT.out _).mono ?_
  rintro e z1 ⟨rfl, hc1⟩
  have HC1 := Lib.hid (below_then HB4.out hc1)
  clear hc1
  go_wp2_with fail
  refine (HAW.out _ (env_below HE.out HC1.out)).mono ?_
  rintro e z2 ⟨rfl, hc2⟩
  have HC2 := Lib.hid (below_then HC1.out hc2)
  clear hc2
  go_wp2_with fail
  go_ret
  exact ⟨rfl, HC2.out⟩

set_option maxHeartbeats 2000000 in
theorem uparts_1010c (p : Int) (hp : 65535 < p ∧ p ≤ 70000) (w : World) (hE : Env11 w) :
    Calls Tryz.prog 8 #[.int .i64 p, .bool false, .bool true, .bool false, .bool true] w fun e w' => e = .returned (.bool true) ∧ Below w.heap.size w w' := by
  have HE := Lib.hid hE
  have HAW := Lib.hid (fun W (hW : Env11 W) => uawake_any W hW)
  have HDC := Lib.hid (fun W => udecimal_any p (by omega) W)
  have hml := Lib.itoa_length_le p (by omega) (by omega)
  obtain ⟨I, hI⟩ : ∃ I : ByteArray, I = ⟨(Lib.itoa p).toArray⟩ := ⟨_, rfl⟩
  have hIs : I.size ≤ 21 := by rw [hI, mk_size]; omega
  have hIl : I.data.toList = Lib.itoa p := by rw [hI]
  rw [← hI] at HDC
  have s0 := part_small ((⟨#[104, 116, 116, 112, 115]⟩ : ByteArray) ++ (⟨#[58, 47, 47]⟩ : ByteArray)) (by simp <;> omega)
  have s1 := part_small (((⟨#[104, 116, 116, 112, 115]⟩ : ByteArray) ++ (⟨#[58, 47, 47]⟩ : ByteArray)) ++ (⟨#[104, 46, 120, 58, 48, 48]⟩ : ByteArray)) (by simp <;> omega)
  have s2 := part_small ((((⟨#[104, 116, 116, 112, 115]⟩ : ByteArray) ++ (⟨#[58, 47, 47]⟩ : ByteArray)) ++ (⟨#[104, 46, 120, 58, 48, 48]⟩ : ByteArray)) ++ I) (by simp [hIl] <;> omega)
  have s3 := part_small (((((⟨#[104, 116, 116, 112, 115]⟩ : ByteArray) ++ (⟨#[58, 47, 47]⟩ : ByteArray)) ++ (⟨#[104, 46, 120, 58, 48, 48]⟩ : ByteArray)) ++ I) ++ (⟨#[47, 97]⟩ : ByteArray)) (by simp [hIl] <;> omega)
  have s4 := part_small ((((((⟨#[104, 116, 116, 112, 115]⟩ : ByteArray) ++ (⟨#[58, 47, 47]⟩ : ByteArray)) ++ (⟨#[104, 46, 120, 58, 48, 48]⟩ : ByteArray)) ++ I) ++ (⟨#[47, 97]⟩ : ByteArray)) ++ (⟨#[63, 113]⟩ : ByteArray)) (by simp [hIl] <;> omega)
  have HX : Hid (((((((⟨#[104, 116, 116, 112, 115]⟩ : ByteArray) ++ (⟨#[58, 47, 47]⟩ : ByteArray)) ++ (⟨#[104, 46, 120, 58, 48, 48]⟩ : ByteArray)) ++ I) ++ (⟨#[47, 97]⟩ : ByteArray)) ++ (⟨#[63, 113]⟩ : ByteArray)).data.toList = partsT true false true false p) := Lib.hid (by simp [hIl, partsT, httpsL])
  have HP : Hid (∀ W, Env11 W → Calls Tryz.prog 10 #[.string ((((((⟨#[104, 116, 116, 112, 115]⟩ : ByteArray) ++ (⟨#[58, 47, 47]⟩ : ByteArray)) ++ (⟨#[104, 46, 120, 58, 48, 48]⟩ : ByteArray)) ++ I) ++ (⟨#[47, 97]⟩ : ByteArray)) ++ (⟨#[63, 113]⟩ : ByteArray))] W fun e w' => e = .returned (.tuple #[.agg #[.string ⟨#[]⟩, .string ⟨#[]⟩, .string ⟨#[]⟩, .string ⟨#[]⟩, .int .i64 0, .string ⟨#[]⟩, .bool false, .string ⟨#[]⟩, .bool false, .string ⟨#[]⟩], .int .i64 8]) ∧ Below W.heap.size W w') := Lib.hid (by
    intro W hW
    have := uparse_any ((((((⟨#[104, 116, 116, 112, 115]⟩ : ByteArray) ++ (⟨#[58, 47, 47]⟩ : ByteArray)) ++ (⟨#[104, 46, 120, 58, 48, 48]⟩ : ByteArray)) ++ I) ++ (⟨#[47, 97]⟩ : ByteArray)) ++ (⟨#[63, 113]⟩ : ByteArray)) (by omega) W hW
    rw [HX.out, parts_url true false true false p (by omega), if_neg (by omega)] at this
    exact this)
  clear hI hIl hml hE
  go_enter Tryz.func8, Tryz.ntmps8
  go_wp2_with fail
  refine (HDC.out _).mono ?_
  rintro e w1 ⟨rfl, hb1⟩
  have HB1 := Lib.hid hb1
  clear hb1
  go_wp2_with fail
  refine (HP.out _ (env_below HE.out HB1.out)).mono ?_
  rintro e w2 ⟨rfl, hb2⟩
  have HB2 := Lib.hid (below_more (below_then HB1.out hb2) (.cells #[.string ⟨#[]⟩, .string ⟨#[]⟩, .string ⟨#[]⟩, .string ⟨#[]⟩, .int .i64 0, .string ⟨#[]⟩, .bool false, .string ⟨#[]⟩, .bool false, .string ⟨#[]⟩] 24))
  clear hb2
  go_wp2_with fail
  refine (HAW.out _ (env_below HE.out HB2.out)).mono ?_
  rintro e w3 ⟨rfl, hb3⟩
  have HB3 := Lib.hid (below_then HB2.out hb3)
  clear hb3
  go_wp2_with fail
  go_ret
  exact ⟨rfl, HB3.out⟩

set_option maxHeartbeats 2000000 in
theorem uparts_1011a (w : World) (hE : Env11 w) :
    Calls Tryz.prog 8 #[.int .i64 443, .bool false, .bool true, .bool true, .bool true] w fun e w' => e = .returned (.bool true) ∧ Below w.heap.size w w' := by
  have HE := Lib.hid hE
  have HAW := Lib.hid (fun W (hW : Env11 W) => uawake_any W hW)
  have HDC := Lib.hid (fun W => udecimal_any 443 (by omega) W)
  have hml := Lib.itoa_length_le 443 (by omega) (by omega)
  obtain ⟨I, hI⟩ : ∃ I : ByteArray, I = ⟨(Lib.itoa 443).toArray⟩ := ⟨_, rfl⟩
  have hIs : I.size ≤ 21 := by rw [hI, mk_size]; omega
  have hIl : I.data.toList = Lib.itoa 443 := by rw [hI]
  rw [← hI] at HDC
  have s0 := part_small ((⟨#[104, 116, 116, 112, 115]⟩ : ByteArray) ++ (⟨#[58, 47, 47]⟩ : ByteArray)) (by simp <;> omega)
  have s1 := part_small (((⟨#[104, 116, 116, 112, 115]⟩ : ByteArray) ++ (⟨#[58, 47, 47]⟩ : ByteArray)) ++ (⟨#[104, 46, 120, 58, 48, 48]⟩ : ByteArray)) (by simp <;> omega)
  have s2 := part_small ((((⟨#[104, 116, 116, 112, 115]⟩ : ByteArray) ++ (⟨#[58, 47, 47]⟩ : ByteArray)) ++ (⟨#[104, 46, 120, 58, 48, 48]⟩ : ByteArray)) ++ I) (by simp [hIl] <;> omega)
  have s3 := part_small (((((⟨#[104, 116, 116, 112, 115]⟩ : ByteArray) ++ (⟨#[58, 47, 47]⟩ : ByteArray)) ++ (⟨#[104, 46, 120, 58, 48, 48]⟩ : ByteArray)) ++ I) ++ (⟨#[47, 97]⟩ : ByteArray)) (by simp [hIl] <;> omega)
  have s4 := part_small ((((((⟨#[104, 116, 116, 112, 115]⟩ : ByteArray) ++ (⟨#[58, 47, 47]⟩ : ByteArray)) ++ (⟨#[104, 46, 120, 58, 48, 48]⟩ : ByteArray)) ++ I) ++ (⟨#[47, 97]⟩ : ByteArray)) ++ (⟨#[63, 113]⟩ : ByteArray)) (by simp [hIl] <;> omega)
  have s5 := part_small (((((((⟨#[104, 116, 116, 112, 115]⟩ : ByteArray) ++ (⟨#[58, 47, 47]⟩ : ByteArray)) ++ (⟨#[104, 46, 120, 58, 48, 48]⟩ : ByteArray)) ++ I) ++ (⟨#[47, 97]⟩ : ByteArray)) ++ (⟨#[63, 113]⟩ : ByteArray)) ++ (⟨#[35, 102]⟩ : ByteArray)) (by simp [hIl] <;> omega)
  have HX : Hid ((((((((⟨#[104, 116, 116, 112, 115]⟩ : ByteArray) ++ (⟨#[58, 47, 47]⟩ : ByteArray)) ++ (⟨#[104, 46, 120, 58, 48, 48]⟩ : ByteArray)) ++ I) ++ (⟨#[47, 97]⟩ : ByteArray)) ++ (⟨#[63, 113]⟩ : ByteArray)) ++ (⟨#[35, 102]⟩ : ByteArray)).data.toList = partsT true false true true 443) := Lib.hid (by simp [hIl, partsT, httpsL])
  have HU : Hid (partsU true false true true 443 = ⟨[104, 116, 116, 112, 115], [], [], [104, 46, 120], (-1), [47, 97], true, [113], true, [102]⟩) := Lib.hid (by simp [partsU, httpsL])
  have HP : Hid (∀ W, Env11 W → Calls Tryz.prog 10 #[.string (((((((⟨#[104, 116, 116, 112, 115]⟩ : ByteArray) ++ (⟨#[58, 47, 47]⟩ : ByteArray)) ++ (⟨#[104, 46, 120, 58, 48, 48]⟩ : ByteArray)) ++ I) ++ (⟨#[47, 97]⟩ : ByteArray)) ++ (⟨#[63, 113]⟩ : ByteArray)) ++ (⟨#[35, 102]⟩ : ByteArray))] W fun e w' => e = .returned (.tuple #[.agg #[.string ⟨#[104, 116, 116, 112, 115]⟩, .string ⟨#[]⟩, .string ⟨#[]⟩, .string ⟨#[104, 46, 120]⟩, .int .i64 (-1), .string ⟨#[47, 97]⟩, .bool true, .string ⟨#[113]⟩, .bool true, .string ⟨#[102]⟩], .int .i64 0]) ∧ Below W.heap.size W w') := Lib.hid (by
    intro W hW
    have := uparse_any (((((((⟨#[104, 116, 116, 112, 115]⟩ : ByteArray) ++ (⟨#[58, 47, 47]⟩ : ByteArray)) ++ (⟨#[104, 46, 120, 58, 48, 48]⟩ : ByteArray)) ++ I) ++ (⟨#[47, 97]⟩ : ByteArray)) ++ (⟨#[63, 113]⟩ : ByteArray)) ++ (⟨#[35, 102]⟩ : ByteArray)) (by omega) W hW
    rw [HX.out, parts_url true false true true 443 (by omega), if_pos (by omega), HU.out] at this
    exact this)
  have HPT : Hid (∀ W, Calls Tryz.prog 17 #[.agg #[.string ⟨#[104, 116, 116, 112, 115]⟩, .string ⟨#[]⟩, .string ⟨#[]⟩, .string ⟨#[104, 46, 120]⟩, .int .i64 (-1), .string ⟨#[47, 97]⟩, .bool true, .string ⟨#[113]⟩, .bool true, .string ⟨#[102]⟩]] W fun e w' => e = .returned (.int .i64 443) ∧ Below W.heap.size W w') := Lib.hid (by
    intro W
    have := uPortU_any ⟨#[104, 116, 116, 112, 115]⟩ ⟨#[]⟩ ⟨#[]⟩ ⟨#[104, 46, 120]⟩ ⟨#[47, 97]⟩ ⟨#[113]⟩ ⟨#[102]⟩ (-1) true true W
    exact this)
  clear hI hIl hml hE
  go_enter Tryz.func8, Tryz.ntmps8
  go_wp2_with fail
  refine (HDC.out _).mono ?_
  rintro e w1 ⟨rfl, hb1⟩
  have HB1 := Lib.hid hb1
  clear hb1
  go_wp2_with fail
  refine (HP.out _ (env_below HE.out HB1.out)).mono ?_
  rintro e w2 ⟨rfl, hb2⟩
  have HB4 := Lib.hid (below_more (below_more (below_then HB1.out hb2) (.cells #[.string ⟨#[104, 116, 116, 112, 115]⟩, .string ⟨#[]⟩, .string ⟨#[]⟩, .string ⟨#[104, 46, 120]⟩, .int .i64 (-1), .string ⟨#[47, 97]⟩, .bool true, .string ⟨#[113]⟩, .bool true, .string ⟨#[102]⟩] 24)) (.cells #[.string ⟨#[104, 116, 116, 112, 115]⟩, .string ⟨#[]⟩, .string ⟨#[]⟩, .string ⟨#[104, 46, 120]⟩, .int .i64 (-1), .string ⟨#[47, 97]⟩, .bool true, .string ⟨#[113]⟩, .bool true, .string ⟨#[102]⟩] 24))
  have HS4 := Lib.hid (Rw.more (Rw.alloc (base := 0) w2 24 #[.string ⟨#[104, 116, 116, 112, 115]⟩, .string ⟨#[]⟩, .string ⟨#[]⟩, .string ⟨#[104, 46, 120]⟩, .int .i64 (-1), .string ⟨#[47, 97]⟩, .bool true, .string ⟨#[113]⟩, .bool true, .string ⟨#[102]⟩] (Nat.zero_le _)) (.cells #[.string ⟨#[104, 116, 116, 112, 115]⟩, .string ⟨#[]⟩, .string ⟨#[]⟩, .string ⟨#[104, 46, 120]⟩, .int .i64 (-1), .string ⟨#[47, 97]⟩, .bool true, .string ⟨#[113]⟩, .bool true, .string ⟨#[102]⟩] 24))
  have HR4 := Lib.hid (Rw.alloc (base := 0) (w2.alloc (.cells #[.string ⟨#[104, 116, 116, 112, 115]⟩, .string ⟨#[]⟩, .string ⟨#[]⟩, .string ⟨#[104, 46, 120]⟩, .int .i64 (-1), .string ⟨#[47, 97]⟩, .bool true, .string ⟨#[113]⟩, .bool true, .string ⟨#[102]⟩] 24)) 24 #[.string ⟨#[104, 116, 116, 112, 115]⟩, .string ⟨#[]⟩, .string ⟨#[]⟩, .string ⟨#[104, 46, 120]⟩, .int .i64 (-1), .string ⟨#[47, 97]⟩, .bool true, .string ⟨#[113]⟩, .bool true, .string ⟨#[102]⟩] (Nat.zero_le _))
  clear hb2
  have ka0 := Rw.cell HS4.out (j := 0) rfl
  have kb0 := Rw.cell HR4.out (j := 0) rfl
  have ka1 := Rw.cell HS4.out (j := 1) rfl
  have kb1 := Rw.cell HR4.out (j := 1) rfl
  have ka2 := Rw.cell HS4.out (j := 2) rfl
  have kb2 := Rw.cell HR4.out (j := 2) rfl
  have ka3 := Rw.cell HS4.out (j := 3) rfl
  have kb3 := Rw.cell HR4.out (j := 3) rfl
  have ka4 := Rw.cell HS4.out (j := 4) rfl
  have kb4 := Rw.cell HR4.out (j := 4) rfl
  have ka5 := Rw.cell HS4.out (j := 5) rfl
  have kb5 := Rw.cell HR4.out (j := 5) rfl
  have ka6 := Rw.cell HS4.out (j := 6) rfl
  have kb6 := Rw.cell HR4.out (j := 6) rfl
  have ka7 := Rw.cell HS4.out (j := 7) rfl
  have kb7 := Rw.cell HR4.out (j := 7) rfl
  have ka8 := Rw.cell HS4.out (j := 8) rfl
  have kb8 := Rw.cell HR4.out (j := 8) rfl
  have ka9 := Rw.cell HS4.out (j := 9) rfl
  have kb9 := Rw.cell HR4.out (j := 9) rfl
  go_wp2_with fail
  refine (HPT.out _).mono ?_
  rintro e z1 ⟨rfl, hc1⟩
  have HC1 := Lib.hid (below_then HB4.out hc1)
  clear hc1
  go_wp2_with fail
  refine (HAW.out _ (env_below HE.out HC1.out)).mono ?_
  rintro e z2 ⟨rfl, hc2⟩
  have HC2 := Lib.hid (below_then HC1.out hc2)
  clear hc2
  go_wp2_with fail
  go_ret
  exact ⟨rfl, HC2.out⟩

set_option maxHeartbeats 2000000 in
theorem uparts_1011b (p : Int) (hp : 0 ≤ p ∧ p ≤ 65535) (hd : ¬ p = 443) (w : World) (hE : Env11 w) :
    Calls Tryz.prog 8 #[.int .i64 p, .bool false, .bool true, .bool true, .bool true] w fun e w' => e = .returned (.bool true) ∧ Below w.heap.size w w' := by
  have HE := Lib.hid hE
  have HAW := Lib.hid (fun W (hW : Env11 W) => uawake_any W hW)
  have HDC := Lib.hid (fun W => udecimal_any p (by omega) W)
  have hml := Lib.itoa_length_le p (by omega) (by omega)
  obtain ⟨I, hI⟩ : ∃ I : ByteArray, I = ⟨(Lib.itoa p).toArray⟩ := ⟨_, rfl⟩
  have hIs : I.size ≤ 21 := by rw [hI, mk_size]; omega
  have hIl : I.data.toList = Lib.itoa p := by rw [hI]
  rw [← hI] at HDC
  have s0 := part_small ((⟨#[104, 116, 116, 112, 115]⟩ : ByteArray) ++ (⟨#[58, 47, 47]⟩ : ByteArray)) (by simp <;> omega)
  have s1 := part_small (((⟨#[104, 116, 116, 112, 115]⟩ : ByteArray) ++ (⟨#[58, 47, 47]⟩ : ByteArray)) ++ (⟨#[104, 46, 120, 58, 48, 48]⟩ : ByteArray)) (by simp <;> omega)
  have s2 := part_small ((((⟨#[104, 116, 116, 112, 115]⟩ : ByteArray) ++ (⟨#[58, 47, 47]⟩ : ByteArray)) ++ (⟨#[104, 46, 120, 58, 48, 48]⟩ : ByteArray)) ++ I) (by simp [hIl] <;> omega)
  have s3 := part_small (((((⟨#[104, 116, 116, 112, 115]⟩ : ByteArray) ++ (⟨#[58, 47, 47]⟩ : ByteArray)) ++ (⟨#[104, 46, 120, 58, 48, 48]⟩ : ByteArray)) ++ I) ++ (⟨#[47, 97]⟩ : ByteArray)) (by simp [hIl] <;> omega)
  have s4 := part_small ((((((⟨#[104, 116, 116, 112, 115]⟩ : ByteArray) ++ (⟨#[58, 47, 47]⟩ : ByteArray)) ++ (⟨#[104, 46, 120, 58, 48, 48]⟩ : ByteArray)) ++ I) ++ (⟨#[47, 97]⟩ : ByteArray)) ++ (⟨#[63, 113]⟩ : ByteArray)) (by simp [hIl] <;> omega)
  have s5 := part_small (((((((⟨#[104, 116, 116, 112, 115]⟩ : ByteArray) ++ (⟨#[58, 47, 47]⟩ : ByteArray)) ++ (⟨#[104, 46, 120, 58, 48, 48]⟩ : ByteArray)) ++ I) ++ (⟨#[47, 97]⟩ : ByteArray)) ++ (⟨#[63, 113]⟩ : ByteArray)) ++ (⟨#[35, 102]⟩ : ByteArray)) (by simp [hIl] <;> omega)
  have HX : Hid ((((((((⟨#[104, 116, 116, 112, 115]⟩ : ByteArray) ++ (⟨#[58, 47, 47]⟩ : ByteArray)) ++ (⟨#[104, 46, 120, 58, 48, 48]⟩ : ByteArray)) ++ I) ++ (⟨#[47, 97]⟩ : ByteArray)) ++ (⟨#[63, 113]⟩ : ByteArray)) ++ (⟨#[35, 102]⟩ : ByteArray)).data.toList = partsT true false true true p) := Lib.hid (by simp [hIl, partsT, httpsL])
  have HU : Hid (partsU true false true true p = ⟨[104, 116, 116, 112, 115], [], [], [104, 46, 120], p, [47, 97], true, [113], true, [102]⟩) := Lib.hid (by simp [partsU, httpsL, hd])
  have HP : Hid (∀ W, Env11 W → Calls Tryz.prog 10 #[.string (((((((⟨#[104, 116, 116, 112, 115]⟩ : ByteArray) ++ (⟨#[58, 47, 47]⟩ : ByteArray)) ++ (⟨#[104, 46, 120, 58, 48, 48]⟩ : ByteArray)) ++ I) ++ (⟨#[47, 97]⟩ : ByteArray)) ++ (⟨#[63, 113]⟩ : ByteArray)) ++ (⟨#[35, 102]⟩ : ByteArray))] W fun e w' => e = .returned (.tuple #[.agg #[.string ⟨#[104, 116, 116, 112, 115]⟩, .string ⟨#[]⟩, .string ⟨#[]⟩, .string ⟨#[104, 46, 120]⟩, .int .i64 p, .string ⟨#[47, 97]⟩, .bool true, .string ⟨#[113]⟩, .bool true, .string ⟨#[102]⟩], .int .i64 0]) ∧ Below W.heap.size W w') := Lib.hid (by
    intro W hW
    have := uparse_any (((((((⟨#[104, 116, 116, 112, 115]⟩ : ByteArray) ++ (⟨#[58, 47, 47]⟩ : ByteArray)) ++ (⟨#[104, 46, 120, 58, 48, 48]⟩ : ByteArray)) ++ I) ++ (⟨#[47, 97]⟩ : ByteArray)) ++ (⟨#[63, 113]⟩ : ByteArray)) ++ (⟨#[35, 102]⟩ : ByteArray)) (by omega) W hW
    rw [HX.out, parts_url true false true true p (by omega), if_pos (by omega), HU.out] at this
    exact this)
  have HPT : Hid (∀ W, Calls Tryz.prog 17 #[.agg #[.string ⟨#[104, 116, 116, 112, 115]⟩, .string ⟨#[]⟩, .string ⟨#[]⟩, .string ⟨#[104, 46, 120]⟩, .int .i64 p, .string ⟨#[47, 97]⟩, .bool true, .string ⟨#[113]⟩, .bool true, .string ⟨#[102]⟩]] W fun e w' => e = .returned (.int .i64 p) ∧ Below W.heap.size W w') := Lib.hid (by
    intro W
    have := uPortU_any ⟨#[104, 116, 116, 112, 115]⟩ ⟨#[]⟩ ⟨#[]⟩ ⟨#[104, 46, 120]⟩ ⟨#[47, 97]⟩ ⟨#[113]⟩ ⟨#[102]⟩ p true true W
    rw [if_neg (by omega)] at this
    exact this)
  clear hI hIl hml hE
  go_enter Tryz.func8, Tryz.ntmps8
  go_wp2_with fail
  refine (HDC.out _).mono ?_
  rintro e w1 ⟨rfl, hb1⟩
  have HB1 := Lib.hid hb1
  clear hb1
  go_wp2_with fail
  refine (HP.out _ (env_below HE.out HB1.out)).mono ?_
  rintro e w2 ⟨rfl, hb2⟩
  have HB4 := Lib.hid (below_more (below_more (below_then HB1.out hb2) (.cells #[.string ⟨#[104, 116, 116, 112, 115]⟩, .string ⟨#[]⟩, .string ⟨#[]⟩, .string ⟨#[104, 46, 120]⟩, .int .i64 p, .string ⟨#[47, 97]⟩, .bool true, .string ⟨#[113]⟩, .bool true, .string ⟨#[102]⟩] 24)) (.cells #[.string ⟨#[104, 116, 116, 112, 115]⟩, .string ⟨#[]⟩, .string ⟨#[]⟩, .string ⟨#[104, 46, 120]⟩, .int .i64 p, .string ⟨#[47, 97]⟩, .bool true, .string ⟨#[113]⟩, .bool true, .string ⟨#[102]⟩] 24))
  have HS4 := Lib.hid (Rw.more (Rw.alloc (base := 0) w2 24 #[.string ⟨#[104, 116, 116, 112, 115]⟩, .string ⟨#[]⟩, .string ⟨#[]⟩, .string ⟨#[104, 46, 120]⟩, .int .i64 p, .string ⟨#[47, 97]⟩, .bool true, .string ⟨#[113]⟩, .bool true, .string ⟨#[102]⟩] (Nat.zero_le _)) (.cells #[.string ⟨#[104, 116, 116, 112, 115]⟩, .string ⟨#[]⟩, .string ⟨#[]⟩, .string ⟨#[104, 46, 120]⟩, .int .i64 p, .string ⟨#[47, 97]⟩, .bool true, .string ⟨#[113]⟩, .bool true, .string ⟨#[102]⟩] 24))
  have HR4 := Lib.hid (Rw.alloc (base := 0) (w2.alloc (.cells #[.string ⟨#[104, 116, 116, 112, 115]⟩, .string ⟨#[]⟩, .string ⟨#[]⟩, .string ⟨#[104, 46, 120]⟩, .int .i64 p, .string ⟨#[47, 97]⟩, .bool true, .string ⟨#[113]⟩, .bool true, .string ⟨#[102]⟩] 24)) 24 #[.string ⟨#[104, 116, 116, 112, 115]⟩, .string ⟨#[]⟩, .string ⟨#[]⟩, .string ⟨#[104, 46, 120]⟩, .int .i64 p, .string ⟨#[47, 97]⟩, .bool true, .string ⟨#[113]⟩, .bool true, .string ⟨#[102]⟩] (Nat.zero_le _))
  clear hb2
  have ka0 := Rw.cell HS4.out (j := 0) rfl
  have kb0 := Rw.cell HR4.out (j := 0) rfl
  have ka1 := Rw.cell HS4.out (j := 1) rfl
  have kb1 := Rw.cell HR4.out (j := 1) rfl
  have ka2 := Rw.cell HS4.out (j := 2) rfl
  have kb2 := Rw.cell HR4.out (j := 2) rfl
  have ka3 := Rw.cell HS4.out (j := 3) rfl
  have kb3 := Rw.cell HR4.out (j := 3) rfl
  have ka4 := Rw.cell HS4.out (j := 4) rfl
  have kb4 := Rw.cell HR4.out (j := 4) rfl
  have ka5 := Rw.cell HS4.out (j := 5) rfl
  have kb5 := Rw.cell HR4.out (j := 5) rfl
  have ka6 := Rw.cell HS4.out (j := 6) rfl
  have kb6 := Rw.cell HR4.out (j := 6) rfl
  have ka7 := Rw.cell HS4.out (j := 7) rfl
  have kb7 := Rw.cell HR4.out (j := 7) rfl
  have ka8 := Rw.cell HS4.out (j := 8) rfl
  have kb8 := Rw.cell HR4.out (j := 8) rfl
  have ka9 := Rw.cell HS4.out (j := 9) rfl
  have kb9 := Rw.cell HR4.out (j := 9) rfl
  go_wp2_with fail
  refine (HPT.out _).mono ?_
  rintro e z1 ⟨rfl, hc1⟩
  have HC1 := Lib.hid (below_then HB4.out hc1)
  clear hc1
  go_wp2_with fail
  refine (HAW.out _ (env_below HE.out HC1.out)).mono ?_
  rintro e z2 ⟨rfl, hc2⟩
  have HC2 := Lib.hid (below_then HC1.out hc2)
  clear hc2
  go_wp2_with fail
  go_ret
  exact ⟨rfl, HC2.out⟩

set_option maxHeartbeats 2000000 in
theorem uparts_1011c (p : Int) (hp : 65535 < p ∧ p ≤ 70000) (w : World) (hE : Env11 w) :
    Calls Tryz.prog 8 #[.int .i64 p, .bool false, .bool true, .bool true, .bool true] w fun e w' => e = .returned (.bool true) ∧ Below w.heap.size w w' := by
  have HE := Lib.hid hE
  have HAW := Lib.hid (fun W (hW : Env11 W) => uawake_any W hW)
  have HDC := Lib.hid (fun W => udecimal_any p (by omega) W)
  have hml := Lib.itoa_length_le p (by omega) (by omega)
  obtain ⟨I, hI⟩ : ∃ I : ByteArray, I = ⟨(Lib.itoa p).toArray⟩ := ⟨_, rfl⟩
  have hIs : I.size ≤ 21 := by rw [hI, mk_size]; omega
  have hIl : I.data.toList = Lib.itoa p := by rw [hI]
  rw [← hI] at HDC
  have s0 := part_small ((⟨#[104, 116, 116, 112, 115]⟩ : ByteArray) ++ (⟨#[58, 47, 47]⟩ : ByteArray)) (by simp <;> omega)
  have s1 := part_small (((⟨#[104, 116, 116, 112, 115]⟩ : ByteArray) ++ (⟨#[58, 47, 47]⟩ : ByteArray)) ++ (⟨#[104, 46, 120, 58, 48, 48]⟩ : ByteArray)) (by simp <;> omega)
  have s2 := part_small ((((⟨#[104, 116, 116, 112, 115]⟩ : ByteArray) ++ (⟨#[58, 47, 47]⟩ : ByteArray)) ++ (⟨#[104, 46, 120, 58, 48, 48]⟩ : ByteArray)) ++ I) (by simp [hIl] <;> omega)
  have s3 := part_small (((((⟨#[104, 116, 116, 112, 115]⟩ : ByteArray) ++ (⟨#[58, 47, 47]⟩ : ByteArray)) ++ (⟨#[104, 46, 120, 58, 48, 48]⟩ : ByteArray)) ++ I) ++ (⟨#[47, 97]⟩ : ByteArray)) (by simp [hIl] <;> omega)
  have s4 := part_small ((((((⟨#[104, 116, 116, 112, 115]⟩ : ByteArray) ++ (⟨#[58, 47, 47]⟩ : ByteArray)) ++ (⟨#[104, 46, 120, 58, 48, 48]⟩ : ByteArray)) ++ I) ++ (⟨#[47, 97]⟩ : ByteArray)) ++ (⟨#[63, 113]⟩ : ByteArray)) (by simp [hIl] <;> omega)
  have s5 := part_small (((((((⟨#[104, 116, 116, 112, 115]⟩ : ByteArray) ++ (⟨#[58, 47, 47]⟩ : ByteArray)) ++ (⟨#[104, 46, 120, 58, 48, 48]⟩ : ByteArray)) ++ I) ++ (⟨#[47, 97]⟩ : ByteArray)) ++ (⟨#[63, 113]⟩ : ByteArray)) ++ (⟨#[35, 102]⟩ : ByteArray)) (by simp [hIl] <;> omega)
  have HX : Hid ((((((((⟨#[104, 116, 116, 112, 115]⟩ : ByteArray) ++ (⟨#[58, 47, 47]⟩ : ByteArray)) ++ (⟨#[104, 46, 120, 58, 48, 48]⟩ : ByteArray)) ++ I) ++ (⟨#[47, 97]⟩ : ByteArray)) ++ (⟨#[63, 113]⟩ : ByteArray)) ++ (⟨#[35, 102]⟩ : ByteArray)).data.toList = partsT true false true true p) := Lib.hid (by simp [hIl, partsT, httpsL])
  have HP : Hid (∀ W, Env11 W → Calls Tryz.prog 10 #[.string (((((((⟨#[104, 116, 116, 112, 115]⟩ : ByteArray) ++ (⟨#[58, 47, 47]⟩ : ByteArray)) ++ (⟨#[104, 46, 120, 58, 48, 48]⟩ : ByteArray)) ++ I) ++ (⟨#[47, 97]⟩ : ByteArray)) ++ (⟨#[63, 113]⟩ : ByteArray)) ++ (⟨#[35, 102]⟩ : ByteArray))] W fun e w' => e = .returned (.tuple #[.agg #[.string ⟨#[]⟩, .string ⟨#[]⟩, .string ⟨#[]⟩, .string ⟨#[]⟩, .int .i64 0, .string ⟨#[]⟩, .bool false, .string ⟨#[]⟩, .bool false, .string ⟨#[]⟩], .int .i64 8]) ∧ Below W.heap.size W w') := Lib.hid (by
    intro W hW
    have := uparse_any (((((((⟨#[104, 116, 116, 112, 115]⟩ : ByteArray) ++ (⟨#[58, 47, 47]⟩ : ByteArray)) ++ (⟨#[104, 46, 120, 58, 48, 48]⟩ : ByteArray)) ++ I) ++ (⟨#[47, 97]⟩ : ByteArray)) ++ (⟨#[63, 113]⟩ : ByteArray)) ++ (⟨#[35, 102]⟩ : ByteArray)) (by omega) W hW
    rw [HX.out, parts_url true false true true p (by omega), if_neg (by omega)] at this
    exact this)
  clear hI hIl hml hE
  go_enter Tryz.func8, Tryz.ntmps8
  go_wp2_with fail
  refine (HDC.out _).mono ?_
  rintro e w1 ⟨rfl, hb1⟩
  have HB1 := Lib.hid hb1
  clear hb1
  go_wp2_with fail
  refine (HP.out _ (env_below HE.out HB1.out)).mono ?_
  rintro e w2 ⟨rfl, hb2⟩
  have HB2 := Lib.hid (below_more (below_then HB1.out hb2) (.cells #[.string ⟨#[]⟩, .string ⟨#[]⟩, .string ⟨#[]⟩, .string ⟨#[]⟩, .int .i64 0, .string ⟨#[]⟩, .bool false, .string ⟨#[]⟩, .bool false, .string ⟨#[]⟩] 24))
  clear hb2
  go_wp2_with fail
  refine (HAW.out _ (env_below HE.out HB2.out)).mono ?_
  rintro e w3 ⟨rfl, hb3⟩
  have HB3 := Lib.hid (below_then HB2.out hb3)
  clear hb3
  go_wp2_with fail
  go_ret
  exact ⟨rfl, HB3.out⟩

set_option maxHeartbeats 2000000 in
theorem uparts_1100a (w : World) (hE : Env11 w) :
    Calls Tryz.prog 8 #[.int .i64 443, .bool true, .bool false, .bool false, .bool true] w fun e w' => e = .returned (.bool true) ∧ Below w.heap.size w w' := by
  have HE := Lib.hid hE
  have HAW := Lib.hid (fun W (hW : Env11 W) => uawake_any W hW)
  have HDC := Lib.hid (fun W => udecimal_any 443 (by omega) W)
  have hml := Lib.itoa_length_le 443 (by omega) (by omega)
  obtain ⟨I, hI⟩ : ∃ I : ByteArray, I = ⟨(Lib.itoa 443).toArray⟩ := ⟨_, rfl⟩
  have hIs : I.size ≤ 21 := by rw [hI, mk_size]; omega
  have hIl : I.data.toList = Lib.itoa 443 := by rw [hI]
  rw [← hI] at HDC
  have s0 := part_small ((⟨#[104, 116, 116, 112, 115]⟩ : ByteArray) ++ (⟨#[58, 47, 47]⟩ : ByteArray)) (by simp <;> omega)
  have s1 := part_small (((⟨#[104, 116, 116, 112, 115]⟩ : ByteArray) ++ (⟨#[58, 47, 47]⟩ : ByteArray)) ++ (⟨#[117, 58, 112, 64]⟩ : ByteArray)) (by simp <;> omega)
  have s2 := part_small ((((⟨#[104, 116, 116, 112, 115]⟩ : ByteArray) ++ (⟨#[58, 47, 47]⟩ : ByteArray)) ++ (⟨#[117, 58, 112, 64]⟩ : ByteArray)) ++ (⟨#[104, 46, 120, 58, 48, 48]⟩ : ByteArray)) (by simp <;> omega)
  have s3 := part_small (((((⟨#[104, 116, 116, 112, 115]⟩ : ByteArray) ++ (⟨#[58, 47, 47]⟩ : ByteArray)) ++ (⟨#[117, 58, 112, 64]⟩ : ByteArray)) ++ (⟨#[104, 46, 120, 58, 48, 48]⟩ : ByteArray)) ++ I) (by simp [hIl] <;> omega)
  have s4 := part_small ((((((⟨#[104, 116, 116, 112, 115]⟩ : ByteArray) ++ (⟨#[58, 47, 47]⟩ : ByteArray)) ++ (⟨#[117, 58, 112, 64]⟩ : ByteArray)) ++ (⟨#[104, 46, 120, 58, 48, 48]⟩ : ByteArray)) ++ I) ++ (⟨#[47, 97]⟩ : ByteArray)) (by simp [hIl] <;> omega)
  have HX : Hid (((((((⟨#[104, 116, 116, 112, 115]⟩ : ByteArray) ++ (⟨#[58, 47, 47]⟩ : ByteArray)) ++ (⟨#[117, 58, 112, 64]⟩ : ByteArray)) ++ (⟨#[104, 46, 120, 58, 48, 48]⟩ : ByteArray)) ++ I) ++ (⟨#[47, 97]⟩ : ByteArray)).data.toList = partsT true true false false 443) := Lib.hid (by simp [hIl, partsT, httpsL])
  have HU : Hid (partsU true true false false 443 = ⟨[104, 116, 116, 112, 115], [117], [112], [104, 46, 120], (-1), [47, 97], false, [], false, []⟩) := Lib.hid (by simp [partsU, httpsL])
  have HP : Hid (∀ W, Env11 W → Calls Tryz.prog 10 #[.string ((((((⟨#[104, 116, 116, 112, 115]⟩ : ByteArray) ++ (⟨#[58, 47, 47]⟩ : ByteArray)) ++ (⟨#[117, 58, 112, 64]⟩ : ByteArray)) ++ (⟨#[104, 46, 120, 58, 48, 48]⟩ : ByteArray)) ++ I) ++ (⟨#[47, 97]⟩ : ByteArray))] W fun e w' => e = .returned (.tuple #[.agg #[.string ⟨#[104, 116, 116, 112, 115]⟩, .string ⟨#[117]⟩, .string ⟨#[112]⟩, .string ⟨#[104, 46, 120]⟩, .int .i64 (-1), .string ⟨#[47, 97]⟩, .bool false, .string ⟨#[]⟩, .bool false, .string ⟨#[]⟩], .int .i64 0]) ∧ Below W.heap.size W w') := Lib.hid (by
    intro W hW
    have := uparse_any ((((((⟨#[104, 116, 116, 112, 115]⟩ : ByteArray) ++ (⟨#[58, 47, 47]⟩ : ByteArray)) ++ (⟨#[117, 58, 112, 64]⟩ : ByteArray)) ++ (⟨#[104, 46, 120, 58, 48, 48]⟩ : ByteArray)) ++ I) ++ (⟨#[47, 97]⟩ : ByteArray)) (by omega) W hW
    rw [HX.out, parts_url true true false false 443 (by omega), if_pos (by omega), HU.out] at this
    exact this)
  have HPT : Hid (∀ W, Calls Tryz.prog 17 #[.agg #[.string ⟨#[104, 116, 116, 112, 115]⟩, .string ⟨#[117]⟩, .string ⟨#[112]⟩, .string ⟨#[104, 46, 120]⟩, .int .i64 (-1), .string ⟨#[47, 97]⟩, .bool false, .string ⟨#[]⟩, .bool false, .string ⟨#[]⟩]] W fun e w' => e = .returned (.int .i64 443) ∧ Below W.heap.size W w') := Lib.hid (by
    intro W
    have := uPortU_any ⟨#[104, 116, 116, 112, 115]⟩ ⟨#[117]⟩ ⟨#[112]⟩ ⟨#[104, 46, 120]⟩ ⟨#[47, 97]⟩ ⟨#[]⟩ ⟨#[]⟩ (-1) false false W
    exact this)
  clear hI hIl hml hE
  go_enter Tryz.func8, Tryz.ntmps8
  go_wp2_with fail
  refine (HDC.out _).mono ?_
  rintro e w1 ⟨rfl, hb1⟩
  have HB1 := Lib.hid hb1
  clear hb1
  go_wp2_with fail
  refine (HP.out _ (env_below HE.out HB1.out)).mono ?_
  rintro e w2 ⟨rfl, hb2⟩
  have HB4 := Lib.hid (below_more (below_more (below_then HB1.out hb2) (.cells #[.string ⟨#[104, 116, 116, 112, 115]⟩, .string ⟨#[117]⟩, .string ⟨#[112]⟩, .string ⟨#[104, 46, 120]⟩, .int .i64 (-1), .string ⟨#[47, 97]⟩, .bool false, .string ⟨#[]⟩, .bool false, .string ⟨#[]⟩] 24)) (.cells #[.string ⟨#[104, 116, 116, 112, 115]⟩, .string ⟨#[117]⟩, .string ⟨#[112]⟩, .string ⟨#[104, 46, 120]⟩, .int .i64 (-1), .string ⟨#[47, 97]⟩, .bool false, .string ⟨#[]⟩, .bool false, .string ⟨#[]⟩] 24))
  have HS4 := Lib.hid (Rw.more (Rw.alloc (base := 0) w2 24 #[.string ⟨#[104, 116, 116, 112, 115]⟩, .string ⟨#[117]⟩, .string ⟨#[112]⟩, .string ⟨#[104, 46, 120]⟩, .int .i64 (-1), .string ⟨#[47, 97]⟩, .bool false, .string ⟨#[]⟩, .bool false, .string ⟨#[]⟩] (Nat.zero_le _)) (.cells #[.string ⟨#[104, 116, 116, 112, 115]⟩, .string ⟨#[117]⟩, .string ⟨#[112]⟩, .string ⟨#[104, 46, 120]⟩, .int .i64 (-1), .string ⟨#[47, 97]⟩, .bool false, .string ⟨#[]⟩, .bool false, .string ⟨#[]⟩] 24))
  have HR4 := Lib.hid (Rw.alloc (base := 0) (w2.alloc (.cells #[.string ⟨#[104, 116, 116, 112, 115]⟩, .string ⟨#[117]⟩, .string ⟨#[112]⟩, .string ⟨#[104, 46, 120]⟩, .int .i64 (-1), .string ⟨#[47, 97]⟩, .bool false, .string ⟨#[]⟩, .bool false, .string ⟨#[]⟩] 24)) 24 #[.string ⟨#[104, 116, 116, 112, 115]⟩, .string ⟨#[117]⟩, .string ⟨#[112]⟩, .string ⟨#[104, 46, 120]⟩, .int .i64 (-1), .string ⟨#[47, 97]⟩, .bool false, .string ⟨#[]⟩, .bool false, .string ⟨#[]⟩] (Nat.zero_le _))
  clear hb2
  have ka0 := Rw.cell HS4.out (j := 0) rfl
  have kb0 := Rw.cell HR4.out (j := 0) rfl
  have ka1 := Rw.cell HS4.out (j := 1) rfl
  have kb1 := Rw.cell HR4.out (j := 1) rfl
  have ka2 := Rw.cell HS4.out (j := 2) rfl
  have kb2 := Rw.cell HR4.out (j := 2) rfl
  have ka3 := Rw.cell HS4.out (j := 3) rfl
  have kb3 := Rw.cell HR4.out (j := 3) rfl
  have ka4 := Rw.cell HS4.out (j := 4) rfl
  have kb4 := Rw.cell HR4.out (j := 4) rfl
  have ka5 := Rw.cell HS4.out (j := 5) rfl
  have kb5 := Rw.cell HR4.out (j := 5) rfl
  have ka6 := Rw.cell HS4.out (j := 6) rfl
  have kb6 := Rw.cell HR4.out (j := 6) rfl
  have ka7 := Rw.cell HS4.out (j := 7) rfl
  have kb7 := Rw.cell HR4.out (j := 7) rfl
  have ka8 := Rw.cell HS4.out (j := 8) rfl
  have kb8 := Rw.cell HR4.out (j := 8) rfl
  have ka9 := Rw.cell HS4.out (j := 9) rfl
  have kb9 := Rw.cell HR4.out (j := 9) rfl
  go_wp2_with fail
  refine (HPT.out _).mono ?_
  rintro e z1 ⟨rfl, hc1⟩
  have HC1 := Lib.hid (below_then HB4.out hc1)
  clear hc1
  go_wp2_with fail
  refine (HAW.out _ (env_below HE.out HC1.out)).mono ?_
  rintro e z2 ⟨rfl, hc2⟩
  have HC2 := Lib.hid (below_then HC1.out hc2)
  clear hc2
  go_wp2_with fail
  go_ret
  exact ⟨rfl, HC2.out⟩

set_option maxHeartbeats 2000000 in
theorem uparts_1100b (p : Int) (hp : 0 ≤ p ∧ p ≤ 65535) (hd : ¬ p = 443) (w : World) (hE : Env11 w) :
    Calls Tryz.prog 8 #[.int .i64 p, .bool true, .bool false, .bool false, .bool true] w fun e w' => e = .returned (.bool true) ∧ Below w.heap.size w w' := by
  have HE := Lib.hid hE
  have HAW := Lib.hid (fun W (hW : Env11 W) => uawake_any W hW)
  have HDC := Lib.hid (fun W => udecimal_any p (by omega) W)
  have hml := Lib.itoa_length_le p (by omega) (by omega)
  obtain ⟨I, hI⟩ : ∃ I : ByteArray, I = ⟨(Lib.itoa p).toArray⟩ := ⟨_, rfl⟩
  have hIs : I.size ≤ 21 := by rw [hI, mk_size]; omega
  have hIl : I.data.toList = Lib.itoa p := by rw [hI]
  rw [← hI] at HDC
  have s0 := part_small ((⟨#[104, 116, 116, 112, 115]⟩ : ByteArray) ++ (⟨#[58, 47, 47]⟩ : ByteArray)) (by simp <;> omega)
  have s1 := part_small (((⟨#[104, 116, 116, 112, 115]⟩ : ByteArray) ++ (⟨#[58, 47, 47]⟩ : ByteArray)) ++ (⟨#[117, 58, 112, 64]⟩ : ByteArray)) (by simp <;> omega)
  have s2 := part_small ((((⟨#[104, 116, 116, 112, 115]⟩ : ByteArray) ++ (⟨#[58, 47, 47]⟩ : ByteArray)) ++ (⟨#[117, 58, 112, 64]⟩ : ByteArray)) ++ (⟨#[104, 46, 120, 58, 48, 48]⟩ : ByteArray)) (by simp <;> omega)
  have s3 := part_small (((((⟨#[104, 116, 116, 112, 115]⟩ : ByteArray) ++ (⟨#[58, 47, 47]⟩ : ByteArray)) ++ (⟨#[117, 58, 112, 64]⟩ : ByteArray)) ++ (⟨#[104, 46, 120, 58, 48, 48]⟩ : ByteArray)) ++ I) (by simp [hIl] <;> omega)
  have s4 := part_small ((((((⟨#[104, 116, 116, 112, 115]⟩ : ByteArray) ++ (⟨#[58, 47, 47]⟩ : ByteArray)) ++ (⟨#[117, 58, 112, 64]⟩ : ByteArray)) ++ (⟨#[104, 46, 120, 58, 48, 48]⟩ : ByteArray)) ++ I) ++ (⟨#[47, 97]⟩ : ByteArray)) (by simp [hIl] <;> omega)
  have HX : Hid (((((((⟨#[104, 116, 116, 112, 115]⟩ : ByteArray) ++ (⟨#[58, 47, 47]⟩ : ByteArray)) ++ (⟨#[117, 58, 112, 64]⟩ : ByteArray)) ++ (⟨#[104, 46, 120, 58, 48, 48]⟩ : ByteArray)) ++ I) ++ (⟨#[47, 97]⟩ : ByteArray)).data.toList = partsT true true false false p) := Lib.hid (by simp [hIl, partsT, httpsL])
  have HU : Hid (partsU true true false false p = ⟨[104, 116, 116, 112, 115], [117], [112], [104, 46, 120], p, [47, 97], false, [], false, []⟩) := Lib.hid (by simp [partsU, httpsL, hd])
  have HP : Hid (∀ W, Env11 W → Calls Tryz.prog 10 #[.string ((((((⟨#[104, 116, 116, 112, 115]⟩ : ByteArray) ++ (⟨#[58, 47, 47]⟩ : ByteArray)) ++ (⟨#[117, 58, 112, 64]⟩ : ByteArray)) ++ (⟨#[104, 46, 120, 58, 48, 48]⟩ : ByteArray)) ++ I) ++ (⟨#[47, 97]⟩ : ByteArray))] W fun e w' => e = .returned (.tuple #[.agg #[.string ⟨#[104, 116, 116, 112, 115]⟩, .string ⟨#[117]⟩, .string ⟨#[112]⟩, .string ⟨#[104, 46, 120]⟩, .int .i64 p, .string ⟨#[47, 97]⟩, .bool false, .string ⟨#[]⟩, .bool false, .string ⟨#[]⟩], .int .i64 0]) ∧ Below W.heap.size W w') := Lib.hid (by
    intro W hW
    have := uparse_any ((((((⟨#[104, 116, 116, 112, 115]⟩ : ByteArray) ++ (⟨#[58, 47, 47]⟩ : ByteArray)) ++ (⟨#[117, 58, 112, 64]⟩ : ByteArray)) ++ (⟨#[104, 46, 120, 58, 48, 48]⟩ : ByteArray)) ++ I) ++ (⟨#[47, 97]⟩ : ByteArray)) (by omega) W hW
    rw [HX.out, parts_url true true false false p (by omega), if_pos (by omega), HU.out] at this
    exact this)
  have HPT : Hid (∀ W, Calls Tryz.prog 17 #[.agg #[.string ⟨#[104, 116, 116, 112, 115]⟩, .string ⟨#[117]⟩, .string ⟨#[112]⟩, .string ⟨#[104, 46, 120]⟩, .int .i64 p, .string ⟨#[47, 97]⟩, .bool false, .string ⟨#[]⟩, .bool false, .string ⟨#[]⟩]] W fun e w' => e = .returned (.int .i64 p) ∧ Below W.heap.size W w') := Lib.hid (by
    intro W
    have := uPortU_any ⟨#[104, 116, 116, 112, 115]⟩ ⟨#[117]⟩ ⟨#[112]⟩ ⟨#[104, 46, 120]⟩ ⟨#[47, 97]⟩ ⟨#[]⟩ ⟨#[]⟩ p false false W
    rw [if_neg (by omega)] at this
    exact this)
  clear hI hIl hml hE
  go_enter Tryz.func8, Tryz.ntmps8
  go_wp2_with fail
  refine (HDC.out _).mono ?_
  rintro e w1 ⟨rfl, hb1⟩
  have HB1 := Lib.hid hb1
  clear hb1
  go_wp2_with fail
  refine (HP.out _ (env_below HE.out HB1.out)).mono ?_
  rintro e w2 ⟨rfl, hb2⟩
  have HB4 := Lib.hid (below_more (below_more (below_then HB1.out hb2) (.cells #[.string ⟨#[104, 116, 116, 112, 115]⟩, .string ⟨#[117]⟩, .string ⟨#[112]⟩, .string ⟨#[104, 46, 120]⟩, .int .i64 p, .string ⟨#[47, 97]⟩, .bool false, .string ⟨#[]⟩, .bool false, .string ⟨#[]⟩] 24)) (.cells #[.string ⟨#[104, 116, 116, 112, 115]⟩, .string ⟨#[117]⟩, .string ⟨#[112]⟩, .string ⟨#[104, 46, 120]⟩, .int .i64 p, .string ⟨#[47, 97]⟩, .bool false, .string ⟨#[]⟩, .bool false, .string ⟨#[]⟩] 24))
  have HS4 := Lib.hid (Rw.more (Rw.alloc (base := 0) w2 24 #[.string ⟨#[104, 116, 116, 112, 115]⟩, .string ⟨#[117]⟩, .string ⟨#[112]⟩, .string ⟨#[104, 46, 120]⟩, .int .i64 p, .string ⟨#[47, 97]⟩, .bool false, .string ⟨#[]⟩, .bool false, .string ⟨#[]⟩] (Nat.zero_le _)) (.cells #[.string ⟨#[104, 116, 116, 112, 115]⟩, .string ⟨#[117]⟩, .string ⟨#[112]⟩, .string ⟨#[104, 46, 120]⟩, .int .i64 p, .string ⟨#[47, 97]⟩, .bool false, .string ⟨#[]⟩, .bool false, .string ⟨#[]⟩] 24))
  have HR4 := Lib.hid (Rw.alloc (base := 0) (w2.alloc (.cells #[.string ⟨#[104, 116, 116, 112, 115]⟩, .string ⟨#[117]⟩, .string ⟨#[112]⟩, .string ⟨#[104, 46, 120]⟩, .int .i64 p, .string ⟨#[47, 97]⟩, .bool false, .string ⟨#[]⟩, .bool false, .string ⟨#[]⟩] 24)) 24 #[.string ⟨#[104, 116, 116, 112, 115]⟩, .string ⟨#[117]⟩, .string ⟨#[112]⟩, .string ⟨#[104, 46, 120]⟩, .int .i64 p, .string ⟨#[47, 97]⟩, .bool false, .string ⟨#[]⟩, .bool false, .string ⟨#[]⟩] (Nat.zero_le _))
  clear hb2
  have ka0 := Rw.cell HS4.out (j := 0) rfl
  have kb0 := Rw.cell HR4.out (j := 0) rfl
  have ka1 := Rw.cell HS4.out (j := 1) rfl
  have kb1 := Rw.cell HR4.out (j := 1) rfl
  have ka2 := Rw.cell HS4.out (j := 2) rfl
  have kb2 := Rw.cell HR4.out (j := 2) rfl
  have ka3 := Rw.cell HS4.out (j := 3) rfl
  have kb3 := Rw.cell HR4.out (j := 3) rfl
  have ka4 := Rw.cell HS4.out (j := 4) rfl
  have kb4 := Rw.cell HR4.out (j := 4) rfl
  have ka5 := Rw.cell HS4.out (j := 5) rfl
  have kb5 := Rw.cell HR4.out (j := 5) rfl
  have ka6 := Rw.cell HS4.out (j := 6) rfl
  have kb6 := Rw.cell HR4.out (j := 6) rfl
  have ka7 := Rw.cell HS4.out (j := 7) rfl
  have kb7 := Rw.cell HR4.out (j := 7) rfl
  have ka8 := Rw.cell HS4.out (j := 8) rfl
  have kb8 := Rw.cell HR4.out (j := 8) rfl
  have ka9 := Rw.cell HS4.out (j := 9) rfl
  have kb9 := Rw.cell HR4.out (j := 9) rfl
  go_wp2_with fail
  refine (HPT.out _).mono ?_
  rintro e z1 ⟨rfl, hc1⟩
  have HC1 := Lib.hid (below_then HB4.out hc1)
  clear hc1
  go_wp2_with fail
  refine (HAW.out _ (env_below HE.out HC1.out)).mono ?_
  rintro e z2 ⟨rfl, hc2⟩
  have HC2 := Lib.hid (below_then HC1.out hc2)
  clear hc2
  go_wp2_with fail
  go_ret
  exact ⟨rfl, HC2.out⟩

set_option maxHeartbeats 2000000 in
theorem uparts_1100c (p : Int) (hp : 65535 < p ∧ p ≤ 70000) (w : World) (hE : Env11 w) :
    Calls Tryz.prog 8 #[.int .i64 p, .bool true, .bool false, .bool false, .bool true] w fun e w' => e = .returned (.bool true) ∧ Below w.heap.size w w' := by
  have HE := Lib.hid hE
  have HAW := Lib.hid (fun W (hW : Env11 W) => uawake_any W hW)
  have HDC := Lib.hid (fun W => udecimal_any p (by omega) W)
  have hml := Lib.itoa_length_le p (by omega) (by omega)
  obtain ⟨I, hI⟩ : ∃ I : ByteArray, I = ⟨(Lib.itoa p).toArray⟩ := ⟨_, rfl⟩
  have hIs : I.size ≤ 21 := by rw [hI, mk_size]; omega
  have hIl : I.data.toList = Lib.itoa p := by rw [hI]
  rw [← hI] at HDC
  have s0 := part_small ((⟨#[104, 116, 116, 112, 115]⟩ : ByteArray) ++ (⟨#[58, 47, 47]⟩ : ByteArray)) (by simp <;> omega)
  have s1 := part_small (((⟨#[104, 116, 116, 112, 115]⟩ : ByteArray) ++ (⟨#[58, 47, 47]⟩ : ByteArray)) ++ (⟨#[117, 58, 112, 64]⟩ : ByteArray)) (by simp <;> omega)
  have s2 := part_small ((((⟨#[104, 116, 116, 112, 115]⟩ : ByteArray) ++ (⟨#[58, 47, 47]⟩ : ByteArray)) ++ (⟨#[117, 58, 112, 64]⟩ : ByteArray)) ++ (⟨#[104, 46, 120, 58, 48, 48]⟩ : ByteArray)) (by simp <;> omega)
  have s3 := part_small (((((⟨#[104, 116, 116, 112, 115]⟩ : ByteArray) ++ (⟨#[58, 47, 47]⟩ : ByteArray)) ++ (⟨#[117, 58, 112, 64]⟩ : ByteArray)) ++ (⟨#[104, 46, 120, 58, 48, 48]⟩ : ByteArray)) ++ I) (by simp [hIl] <;> omega)
  have s4 := part_small ((((((⟨#[104, 116, 116, 112, 115]⟩ : ByteArray) ++ (⟨#[58, 47, 47]⟩ : ByteArray)) ++ (⟨#[117, 58, 112, 64]⟩ : ByteArray)) ++ (⟨#[104, 46, 120, 58, 48, 48]⟩ : ByteArray)) ++ I) ++ (⟨#[47, 97]⟩ : ByteArray)) (by simp [hIl] <;> omega)
  have HX : Hid (((((((⟨#[104, 116, 116, 112, 115]⟩ : ByteArray) ++ (⟨#[58, 47, 47]⟩ : ByteArray)) ++ (⟨#[117, 58, 112, 64]⟩ : ByteArray)) ++ (⟨#[104, 46, 120, 58, 48, 48]⟩ : ByteArray)) ++ I) ++ (⟨#[47, 97]⟩ : ByteArray)).data.toList = partsT true true false false p) := Lib.hid (by simp [hIl, partsT, httpsL])
  have HP : Hid (∀ W, Env11 W → Calls Tryz.prog 10 #[.string ((((((⟨#[104, 116, 116, 112, 115]⟩ : ByteArray) ++ (⟨#[58, 47, 47]⟩ : ByteArray)) ++ (⟨#[117, 58, 112, 64]⟩ : ByteArray)) ++ (⟨#[104, 46, 120, 58, 48, 48]⟩ : ByteArray)) ++ I) ++ (⟨#[47, 97]⟩ : ByteArray))] W fun e w' => e = .returned (.tuple #[.agg #[.string ⟨#[]⟩, .string ⟨#[]⟩, .string ⟨#[]⟩, .string ⟨#[]⟩, .int .i64 0, .string ⟨#[]⟩, .bool false, .string ⟨#[]⟩, .bool false, .string ⟨#[]⟩], .int .i64 8]) ∧ Below W.heap.size W w') := Lib.hid (by
    intro W hW
    have := uparse_any ((((((⟨#[104, 116, 116, 112, 115]⟩ : ByteArray) ++ (⟨#[58, 47, 47]⟩ : ByteArray)) ++ (⟨#[117, 58, 112, 64]⟩ : ByteArray)) ++ (⟨#[104, 46, 120, 58, 48, 48]⟩ : ByteArray)) ++ I) ++ (⟨#[47, 97]⟩ : ByteArray)) (by omega) W hW
    rw [HX.out, parts_url true true false false p (by omega), if_neg (by omega)] at this
    exact this)
  clear hI hIl hml hE
  go_enter Tryz.func8, Tryz.ntmps8
  go_wp2_with fail
  refine (HDC.out _).mono ?_
  rintro e w1 ⟨rfl, hb1⟩
  have HB1 := Lib.hid hb1
  clear hb1
  go_wp2_with fail
  refine (HP.out _ (env_below HE.out HB1.out)).mono ?_
  rintro e w2 ⟨rfl, hb2⟩
  have HB2 := Lib.hid (below_more (below_then HB1.out hb2) (.cells #[.string ⟨#[]⟩, .string ⟨#[]⟩, .string ⟨#[]⟩, .string ⟨#[]⟩, .int .i64 0, .string ⟨#[]⟩, .bool false, .string ⟨#[]⟩, .bool false, .string ⟨#[]⟩] 24))
  clear hb2
  go_wp2_with fail
  refine (HAW.out _ (env_below HE.out HB2.out)).mono ?_
  rintro e w3 ⟨rfl, hb3⟩
  have HB3 := Lib.hid (below_then HB2.out hb3)
  clear hb3
  go_wp2_with fail
  go_ret
  exact ⟨rfl, HB3.out⟩

set_option maxHeartbeats 2000000 in
theorem uparts_1101a (w : World) (hE : Env11 w) :
    Calls Tryz.prog 8 #[.int .i64 443, .bool true, .bool false, .bool true, .bool true] w fun e w' => e = .returned (.bool true) ∧ Below w.heap.size w w' := by
  have HE := Lib.hid hE
  have HAW := Lib.hid (fun W (hW : Env11 W) => uawake_any W hW)
  have HDC := Lib.hid (fun W => udecimal_any 443 (by omega) W)
  have hml := Lib.itoa_length_le 443 (by omega) (by omega)
  obtain ⟨I, hI⟩ : ∃ I : ByteArray, I = ⟨(Lib.itoa 443).toArray⟩ := ⟨_, rfl⟩
  have hIs : I.size ≤ 21 := by rw [hI, mk_size]; omega
  have hIl : I.data.toList = Lib.itoa 443 := by rw [hI]
  rw [← hI] at HDC
  have s0 := part_small ((⟨#[104, 116, 116, 112, 115]⟩ : ByteArray) ++ (⟨#[58, 47, 47]⟩ : ByteArray)) (by simp <;> omega)
  have s1 := part_small (((⟨#[104, 116, 116, 112, 115]⟩ : ByteArray) ++ (⟨#[58, 47, 47]⟩ : ByteArray)) ++ (⟨#[117, 58, 112, 64]⟩ : ByteArray)) (by simp <;> omega)
  have s2 := part_small ((((⟨#[104, 116, 116, 112, 115]⟩ : ByteArray) ++ (⟨#[58, 47, 47]⟩ : ByteArray)) ++ (⟨#[117, 58, 112, 64]⟩ : ByteArray)) ++ (⟨#[104, 46, 120, 58, 48, 48]⟩ : ByteArray)) (by simp <;> omega)
  have s3 := part_small (((((⟨#[104, 116, 116, 112, 115]⟩ : ByteArray) ++ (⟨#[58, 47, 47]⟩ : ByteArray)) ++ (⟨#[117, 58, 112, 64]⟩ : ByteArray)) ++ (⟨#[104, 46, 120, 58, 48, 48]⟩ : ByteArray)) ++ I) (by simp [hIl] <;> omega)
  have s4 := part_small ((((((⟨#[104, 116, 116, 112, 115]⟩ : ByteArray) ++ (⟨#[58, 47, 47]⟩ : ByteArray)) ++ (⟨#[117, 58, 112, 64]⟩ : ByteArray)) ++ (⟨#[104, 46, 120, 58, 48, 48]⟩ : ByteArray)) ++ I) ++ (⟨#[47, 97]⟩ : ByteArray)) (by simp [hIl] <;> omega)
  have s5 := part_small (((((((⟨#[104, 116, 116, 112, 115]⟩ : ByteArray) ++ (⟨#[58, 47, 47]⟩ : ByteArray)) ++ (⟨#[117, 58, 112, 64]⟩ : ByteArray)) ++ (⟨#[104, 46, 120, 58, 48, 48]⟩ : ByteArray)) ++ I) ++ (⟨#[47, 97]⟩ : ByteArray)) ++ (⟨#[35, 102]⟩ : ByteArray)) (by simp [hIl] <;> omega)
  have HX : Hid ((((((((⟨#[104, 116, 116, 112, 115]⟩ : ByteArray) ++ (⟨#[58, 47, 47]⟩ : ByteArray)) ++ (⟨#[117, 58, 112, 64]⟩ : ByteArray)) ++ (⟨#[104, 46, 120, 58, 48, 48]⟩ : ByteArray)) ++ I) ++ (⟨#[47, 97]⟩ : ByteArray)) ++ (⟨#[35, 102]⟩ : ByteArray)).data.toList = partsT true true false true 443) := Lib.hid (by simp [hIl, partsT, httpsL])
  have HU : Hid (partsU true true false true 443 = ⟨[104, 116, 116, 112, 115], [117], [112], [104, 46, 120], (-1), [47, 97], false, [], true, [102]⟩) := Lib.hid (by simp [partsU, httpsL])
  have HP : Hid (∀ W, Env11 W → Calls Tryz.prog 10 #[.string (((((((⟨#[104, 116, 116, 112, 115]⟩ : ByteArray) ++ (⟨#[58, 47, 47]⟩ : ByteArray)) ++ (⟨#[117, 58, 112, 64]⟩ : ByteArray)) ++ (⟨#[104, 46, 120, 58, 48, 48]⟩ : ByteArray)) ++ I) ++ (⟨#[47, 97]⟩ : ByteArray)) ++ (⟨#[35, 102]⟩ : ByteArray))] W fun e w' => e = .returned (.tuple #[.agg #[.string ⟨#[104, 116, 116, 112, 115]⟩, .string ⟨#[117]⟩, .string ⟨#[112]⟩, .string ⟨#[104, 46, 120]⟩, .int .i64 (-1), .string ⟨#[47, 97]⟩, .bool false, .string ⟨#[]⟩, .bool true, .string ⟨#[102]⟩], .int .i64 0]) ∧ Below W.heap.size W w') := Lib.hid (by
    intro W hW
    have := uparse_any (((((((⟨#[104, 116, 116, 112, 115]⟩ : ByteArray) ++ (⟨#[58, 47, 47]⟩ : ByteArray)) ++ (⟨#[117, 58, 112, 64]⟩ : ByteArray)) ++ (⟨#[104, 46, 120, 58, 48, 48]⟩ : ByteArray)) ++ I) ++ (⟨#[47, 97]⟩ : ByteArray)) ++ (⟨#[35, 102]⟩ : ByteArray)) (by omega) W hW
    rw [HX.out, parts_url true true false true 443 (by omega), if_pos (by omega), HU.out] at this
    exact this)
  have HPT : Hid (∀ W, Calls Tryz.prog 17 #[.agg #[.string ⟨#[104, 116, 116, 112, 115]⟩, .string ⟨#[117]⟩, .string ⟨#[112]⟩, .string ⟨#[104, 46, 120]⟩, .int .i64 (-1), .string ⟨#[47, 97]⟩, .bool false, .string ⟨#[]⟩, .bool true, .string ⟨#[102]⟩]] W fun e w' => e = .returned (.int .i64 443) ∧ Below W.heap.size W w') := Lib.hid (by
    intro W
    have := uPortU_any ⟨#[104, 116, 116, 112, 115]⟩ ⟨#[117]⟩ ⟨#[112]⟩ ⟨#[104, 46, 120]⟩ ⟨#[47, 97]⟩ ⟨#[]⟩ ⟨#[102]⟩ (-1) false true W
    exact this)
  clear hI hIl hml hE
  go_enter Tryz.func8, Tryz.ntmps8
  go_wp2_with fail
  refine (HDC.out _).mono ?_
  rintro e w1 ⟨rfl, hb1⟩
  have HB1 := Lib.hid hb1
  clear hb1
  go_wp2_with fail
  refine (HP.out _ (env_below HE.out HB1.out)).mono ?_
  rintro e w2 ⟨rfl, hb2⟩
  have HB4 := Lib.hid (below_more (below_more (below_then HB1.out hb2) (.cells #[.string ⟨#[104, 116, 116, 112, 115]⟩, .string ⟨#[117]⟩, .string ⟨#[112]⟩, .string ⟨#[104, 46, 120]⟩, .int .i64 (-1), .string ⟨#[47, 97]⟩, .bool false, .string ⟨#[]⟩, .bool true, .string ⟨#[102]⟩] 24)) (.cells #[.string ⟨#[104, 116, 116, 112, 115]⟩, .string ⟨#[117]⟩, .string ⟨#[112]⟩, .string ⟨#[104, 46, 120]⟩, .int .i64 (-1), .string ⟨#[47, 97]⟩, .bool false, .string ⟨#[]⟩, .bool true, .string ⟨#[102]⟩] 24))
  have HS4 := Lib.hid (Rw.more (Rw.alloc (base := 0) w2 24 #[.string ⟨#[104, 116, 116, 112, 115]⟩, .string ⟨#[117]⟩, .string ⟨#[112]⟩, .string ⟨#[104, 46, 120]⟩, .int .i64 (-1), .string ⟨#[47, 97]⟩, .bool false, .string ⟨#[]⟩, .bool true, .string ⟨#[102]⟩] (Nat.zero_le _)) (.cells #[.string ⟨#[104, 116, 116, 112, 115]⟩, .string ⟨#[117]⟩, .string ⟨#[112]⟩, .string ⟨#[104, 46, 120]⟩, .int .i64 (-1), .string ⟨#[47, 97]⟩, .bool false, .string ⟨#[]⟩, .bool true, .string ⟨#[102]⟩] 24))
  have HR4 := Lib.hid (Rw.alloc (base := 0) (w2.alloc (.cells #[.string ⟨#[104, 116, 116, 112, 115]⟩, .string ⟨#[117]⟩, .string ⟨#[112]⟩, .string ⟨#[104, 46, 120]⟩, .int .i64 (-1), .string ⟨#[47, 97]⟩, .bool false, .string ⟨#[]⟩, .bool true, .string ⟨#[102]⟩] 24)) 24 #[.string ⟨#[104, 116, 116, 112, 115]⟩, .string ⟨#[117]⟩, .string ⟨#[112]⟩, .string ⟨#[104, 46, 120]⟩, .int .i64 (-1), .string ⟨#[47, 97]⟩, .bool false, .string ⟨#[]⟩, .bool true, .string ⟨#[102]⟩] (Nat.zero_le _))
  clear hb2
  have ka0 := Rw.cell HS4.out (j := 0) rfl
  have kb0 := Rw.cell HR4.out (j := 0) rfl
  have ka1 := Rw.cell HS4.out (j := 1) rfl
  have kb1 := Rw.cell HR4.out (j := 1) rfl
  have ka2 := Rw.cell HS4.out (j := 2) rfl
  have kb2 := Rw.cell HR4.out (j := 2) rfl
  have ka3 := Rw.cell HS4.out (j := 3) rfl
  have kb3 := Rw.cell HR4.out (j := 3) rfl
  have ka4 := Rw.cell HS4.out (j := 4) rfl
  have kb4 := Rw.cell HR4.out (j := 4) rfl
  have ka5 := Rw.cell HS4.out (j := 5) rfl
  have kb5 := Rw.cell HR4.out (j := 5) rfl
  have ka6 := Rw.cell HS4.out (j := 6) rfl
  have kb6 := Rw.cell HR4.out (j := 6) rfl
  have ka7 := Rw.cell HS4.out (j := 7) rfl
  have kb7 := Rw.cell HR4.out (j := 7) rfl
  have ka8 := Rw.cell HS4.out (j := 8) rfl
  have kb8 := Rw.cell HR4.out (j := 8) rfl
  have ka9 := Rw.cell HS4.out (j := 9) rfl
  have kb9 := Rw.cell HR4.out (j := 9) rfl
  go_wp2_with fail
  refine (HPT.out _).mono ?_
  rintro e z1 ⟨rfl, hc1⟩
  have HC1 := Lib.hid (below_then HB4.out hc1)
  clear hc1
  go_wp2_with fail
  refine (HAW.out _ (env_below HE.out HC1.out)).mono ?_
  rintro e z2 ⟨rfl, hc2⟩
  have HC2 := Lib.hid (below_then HC1.out hc2)
  clear hc2
  go_wp2_with fail
  go_ret
  exact ⟨rfl, HC2.out⟩

set_option maxHeartbeats 2000000 in
theorem uparts_1101b (p : Int) (hp : 0 ≤ p ∧ p ≤ 65535) (hd : ¬ p = 443) (w : World) (hE : Env11 w) :
    Calls Tryz.prog 8 #[.int .i64 p, .bool true, .bool false, .bool true, .bool true] w fun e w' => e = .returned (.bool true) ∧ Below w.heap.size w w' := by
  have HE := Lib.hid hE
  have HAW := Lib.hid (fun W (hW : Env11 W) => uawake_any W hW)
  have HDC := Lib.hid (fun W => udecimal_any p (by omega) W)
  have hml := Lib.itoa_length_le p (by omega) (by omega)
  obtain ⟨I, hI⟩ : ∃ I : ByteArray, I = ⟨(Lib.itoa p).toArray⟩ := ⟨_, rfl⟩
  have hIs : I.size ≤ 21 := by rw [hI, mk_size]; omega
  have hIl : I.data.toList = Lib.itoa p := by rw [hI]
  rw [← hI] at HDC
  have s0 := part_small ((⟨#[104, 116, 116, 112, 115]⟩ : ByteArray) ++ (⟨#[58, 47, 47]⟩ : ByteArray)) (by simp <;> omega)
  have s1 := part_small (((⟨#[104, 116, 116, 112, 115]⟩ : ByteArray) ++ (⟨#[58, 47, 47]⟩ : ByteArray)) ++ (⟨#[117, 58, 112, 64]⟩ : ByteArray)) (by simp <;> omega)
  have s2 := part_small ((((⟨#[104, 116, 116, 112, 115]⟩ : ByteArray) ++ (⟨#[58, 47, 47]⟩ : ByteArray)) ++ (⟨#[117, 58, 112, 64]⟩ : ByteArray)) ++ (⟨#[104, 46, 120, 58, 48, 48]⟩ : ByteArray)) (by simp <;> omega)
  have s3 := part_small (((((⟨#[104, 116, 116, 112, 115]⟩ : ByteArray) ++ (⟨#[58, 47, 47]⟩ : ByteArray)) ++ (⟨#[117, 58, 112, 64]⟩ : ByteArray)) ++ (⟨#[104, 46, 120, 58, 48, 48]⟩ : ByteArray)) ++ I) (by simp [hIl] <;> omega)
  have s4 := part_small ((((((⟨#[104, 116, 116, 112, 115]⟩ : ByteArray) ++ (⟨#[58, 47, 47]⟩ : ByteArray)) ++ (⟨#[117, 58, 112, 64]⟩ : ByteArray)) ++ (⟨#[104, 46, 120, 58, 48, 48]⟩ : ByteArray)) ++ I) ++ (⟨#[47, 97]⟩ : ByteArray)) (by simp [hIl] <;> omega)
  have s5 := part_small (((((((⟨#[104, 116, 116, 112, 115]⟩ : ByteArray) ++ (⟨#[58, 47, 47]⟩ : ByteArray)) ++ (⟨#[117, 58, 112, 64]⟩ : ByteArray)) ++ (⟨#[104, 46, 120, 58, 48, 48]⟩ : ByteArray)) ++ I) ++ (⟨#[47, 97]⟩ : ByteArray)) ++ (⟨#[35, 102]⟩ : ByteArray)) (by simp [hIl] <;> omega)
  have HX : Hid ((((((((⟨#[104, 116, 116, 112, 115]⟩ : ByteArray) ++ (⟨#[58, 47, 47]⟩ : ByteArray)) ++ (⟨#[117, 58, 112, 64]⟩ : ByteArray)) ++ (⟨#[104, 46, 120, 58, 48, 48]⟩ : ByteArray)) ++ I) ++ (⟨#[47, 97]⟩ : ByteArray)) ++ (⟨#[35, 102]⟩ : ByteArray)).data.toList = partsT true true false true p) := Lib.hid (by simp [hIl, partsT, httpsL])
  have HU : Hid (partsU true true false true p = ⟨[104, 116, 116, 112, 115], [117], [112], [104, 46, 120], p, [47, 97], false, [], true, [102]⟩) := Lib.hid (by simp [partsU, httpsL, hd])
  have HP : Hid (∀ W, Env11 W → Calls Tryz.prog 10 #[.string (((((((⟨#[104, 116, 116, 112, 115]⟩ : ByteArray) ++ (⟨#[58, 47, 47]⟩ : ByteArray)) ++ (⟨#[117, 58, 112, 64]⟩ : ByteArray)) ++ (⟨#[104, 46, 120, 58, 48, 48]⟩ : ByteArray)) ++ I) ++ (⟨#[47, 97]⟩ : ByteArray)) ++ (⟨#[35, 102]⟩ : ByteArray))] W fun e w' => e = .returned (.tuple #[.agg #[.string ⟨#[104, 116, 116, 112, 115]⟩, .string ⟨#[117]⟩, .string ⟨#[112]⟩, .string ⟨#[104, 46, 120]⟩, .int .i64 p, .string ⟨#[47, 97]⟩, .bool false, .string ⟨#[]⟩, .bool true, .string ⟨#[102]⟩], .int .i64 0]) ∧ Below W.heap.size W w') := Lib.hid (by
    intro W hW
    have := uparse_any (((((((⟨#[104, 116, 116, 112, 115]⟩ : ByteArray) ++ (⟨#[58, 47, 47]⟩ : ByteArray)) ++ (⟨#[117, 58, 112, 64]⟩ : ByteArray)) ++ (⟨#[104, 46, 120, 58, 48, 48]⟩ : ByteArray)) ++ I) ++ (⟨#[47, 97]⟩ : ByteArray)) ++ (⟨#[35, 102]⟩ : ByteArray)) (by omega) W hW
    rw [HX.out, parts_url true true false true p (by omega), if_pos (by omega), HU.out] at this
    exact this)
  have HPT : Hid (∀ W, Calls Tryz.prog 17 #[.agg #[.string ⟨#[104, 116, 116, 112, 115]⟩, .string ⟨#[117]⟩, .string ⟨#[112]⟩, .string ⟨#[104, 46, 120]⟩, .int .i64 p, .string ⟨#[47, 97]⟩, .bool false, .string ⟨#[]⟩, .bool true, .string ⟨#[102]⟩]] W fun e w' => e = .returned (.int .i64 p) ∧ Below W.heap.size W w') := Lib.hid (by
    intro W
    have := uPortU_any ⟨#[104, 116, 116, 112, 115]⟩ ⟨#[117]⟩ ⟨#[112]⟩ ⟨#[104, 46, 120]⟩ ⟨#[47, 97]⟩ ⟨#[]⟩ ⟨#[102]⟩ p false true W
    rw [if_neg (by omega)] at this
    exact this)
  clear hI hIl hml hE
  go_enter Tryz.func8, Tryz.ntmps8
  go_wp2_with fail
  refine (HDC.out _).mono ?_
  rintro e w1 ⟨rfl, hb1⟩
  have HB1 := Lib.hid hb1
  clear hb1
  go_wp2_with fail
  refine (HP.out _ (env_below HE.out HB1.out)).mono ?_
  rintro e w2 ⟨rfl, hb2⟩
  have HB4 := Lib.hid (below_more (below_more (below_then HB1.out hb2) (.cells #[.string ⟨#[104, 116, 116, 112, 115]⟩, .string ⟨#[117]⟩, .string ⟨#[112]⟩, .string ⟨#[104, 46, 120]⟩, .int .i64 p, .string ⟨#[47, 97]⟩, .bool false, .string ⟨#[]⟩, .bool true, .string ⟨#[102]⟩] 24)) (.cells #[.string ⟨#[104, 116, 116, 112, 115]⟩, .string ⟨#[117]⟩, .string ⟨#[112]⟩, .string ⟨#[104, 46, 120]⟩, .int .i64 p, .string ⟨#[47, 97]⟩, .bool false, .string ⟨#[]⟩, .bool true, .string ⟨#[102]⟩] 24))
  have HS4 := Lib.hid (Rw.more (Rw.alloc (base := 0) w2 24 #[.string ⟨#[104, 116, 116, 112, 115]⟩, .string ⟨#[117]⟩, .string ⟨#[112]⟩, .string ⟨#[104, 46, 120]⟩, .int .i64 p, .string ⟨#[47, 97]⟩, .bool false, .string ⟨#[]⟩, .bool true, .string ⟨#[102]⟩] (Nat.zero_le _)) (.cells #[.string ⟨#[104, 116, 116, 112, 115]⟩, .string ⟨#[117]⟩, .string ⟨#[112]⟩, .string ⟨#[104, 46, 120]⟩, .int .i64 p, .string ⟨#[47, 97]⟩, .bool false, .string ⟨#[]⟩, .bool true, .string ⟨#[102]⟩] 24))
  have HR4 := Lib.hid (Rw.alloc (base := 0) (w2.alloc (.cells #[.string ⟨#[104, 116, 116, 112, 115]⟩, .string ⟨#[117]⟩, .string ⟨#[112]⟩, .string ⟨#[104, 46, 120]⟩, .int .i64 p, .string ⟨#[47, 97]⟩, .bool false, .string ⟨#[]⟩, .bool true, .string ⟨#[102]⟩] 24)) 24 #[.string ⟨#[104, 116, 116, 112, 115]⟩, .string ⟨#[117]⟩, .string ⟨#[112]⟩, .string ⟨#[104, 46, 120]⟩, .int .i64 p, .string ⟨#[47, 97]⟩, .bool false, .string ⟨#[]⟩, .bool true, .string ⟨#[102]⟩] (Nat.zero_le _))
  clear hb2
  have ka0 := Rw.cell HS4.out (j := 0) rfl
  have kb0 := Rw.cell HR4.out (j := 0) rfl
  have ka1 := Rw.cell HS4.out (j := 1) rfl
  have kb1 := Rw.cell HR4.out (j := 1) rfl
  have ka2 := Rw.cell HS4.out (j := 2) rfl
  have kb2 := Rw.cell HR4.out (j := 2) rfl
  have ka3 := Rw.cell HS4.out (j := 3) rfl
  have kb3 := Rw.cell HR4.out (j := 3) rfl
  have ka4 := Rw.cell HS4.out (j := 4) rfl
  have kb4 := Rw.cell HR4.out (j := 4) rfl
  have ka5 := Rw.cell HS4.out (j := 5) rfl
  have kb5 := Rw.cell HR4.out (j := 5) rfl
  have ka6 := Rw.cell HS4.out (j := 6) rfl
  have kb6 := Rw.cell HR4.out (j := 6) rfl
  have ka7 := Rw.cell HS4.out (j := 7) rfl
  have kb7 := Rw.cell HR4.out (j := 7) rfl
  have ka8 := Rw.cell HS4.out (j := 8) rfl
  have kb8 := Rw.cell HR4.out (j := 8) rfl
  have ka9 := Rw.cell HS4.out (j := 9) rfl
  have kb9 := Rw.cell HR4.out (j := 9) rfl
  go_wp2_with fail
  refine (HPT.out _).mono ?_
  rintro e z1 ⟨rfl, hc1⟩
  have HC1 := Lib.hid (below_then HB4.out hc1)
  clear hc1
  go_wp2_with fail
  refine (HAW.out _ (env_below HE.out HC1.out)).mono ?_
  rintro e z2 ⟨rfl, hc2⟩
  have HC2 := Lib.hid (below_then HC1.out hc2)
  clear hc2
  go_wp2_with fail
  go_ret
  exact ⟨rfl, HC2.out⟩

set_option maxHeartbeats 2000000 in
theorem uparts_1101c (p : Int) (hp : 65535 < p ∧ p ≤ 70000) (w : World) (hE : Env11 w) :
    Calls Tryz.prog 8 #[.int .i64 p, .bool true, .bool false, .bool true, .bool true] w fun e w' => e = .returned (.bool true) ∧ Below w.heap.size w w' := by
  have HE := Lib.hid hE
  have HAW := Lib.hid (fun W (hW : Env11 W) => uawake_any W hW)
  have HDC := Lib.hid (fun W => udecimal_any p (by omega) W)
  have hml := Lib.itoa_length_le p (by omega) (by omega)
  obtain ⟨I, hI⟩ : ∃ I : ByteArray, I = ⟨(Lib.itoa p).toArray⟩ := ⟨_, rfl⟩
  have hIs : I.size ≤ 21 := by rw [hI, mk_size]; omega
  have hIl : I.data.toList = Lib.itoa p := by rw [hI]
  rw [← hI] at HDC
  have s0 := part_small ((⟨#[104, 116, 116, 112, 115]⟩ : ByteArray) ++ (⟨#[58, 47, 47]⟩ : ByteArray)) (by simp <;> omega)
  have s1 := part_small (((⟨#[104, 116, 116, 112, 115]⟩ : ByteArray) ++ (⟨#[58, 47, 47]⟩ : ByteArray)) ++ (⟨#[117, 58, 112, 64]⟩ : ByteArray)) (by simp <;> omega)
  have s2 := part_small ((((⟨#[104, 116, 116, 112, 115]⟩ : ByteArray) ++ (⟨#[58, 47, 47]⟩ : ByteArray)) ++ (⟨#[117, 58, 112, 64]⟩ : ByteArray)) ++ (⟨#[104, 46, 120, 58, 48, 48]⟩ : ByteArray)) (by simp <;> omega)
  have s3 := part_small (((((⟨#[104, 116, 116, 112, 115]⟩ : ByteArray) ++ (⟨#[58, 47, 47]⟩ : ByteArray)) ++ (⟨#[117, 58, 112, 64]⟩ : ByteArray)) ++ (⟨#[104, 46, 120, 58, 48, 48]⟩ : ByteArray)) ++ I) (by simp [hIl] <;> omega)
  have s4 := part_small ((((((⟨#[104, 116, 116, 112, 115]⟩ : ByteArray) ++ (⟨#[58, 47, 47]⟩ : ByteArray)) ++ (⟨#[117, 58, 112, 64]⟩ : ByteArray)) ++ (⟨#[104, 46, 120, 58, 48, 48]⟩ : ByteArray)) ++ I) ++ (⟨#[47, 97]⟩ : ByteArray)) (by simp [hIl] <;> omega)
  have s5 := part_small (((((((⟨#[104, 116, 116, 112, 115]⟩ : ByteArray) ++ (⟨#[58, 47, 47]⟩ : ByteArray)) ++ (⟨#[117, 58, 112, 64]⟩ : ByteArray)) ++ (⟨#[104, 46, 120, 58, 48, 48]⟩ : ByteArray)) ++ I) ++ (⟨#[47, 97]⟩ : ByteArray)) ++ (⟨#[35, 102]⟩ : ByteArray)) (by simp [hIl] <;> omega)
  have HX : Hid ((((((((⟨#[104, 116, 116, 112, 115]⟩ : ByteArray) ++ (⟨#[58, 47, 47]⟩ : ByteArray)) ++ (⟨#[117, 58, 112, 64]⟩ : ByteArray)) ++ (⟨#[104, 46, 120, 58, 48, 48]⟩ : ByteArray)) ++ I) ++ (⟨#[47, 97]⟩ : ByteArray)) ++ (⟨#[35, 102]⟩ : ByteArray)).data.toList = partsT true true false true p) := Lib.hid (by simp [hIl, partsT, httpsL])
  have HP : Hid (∀ W, Env11 W → Calls Tryz.prog 10 #[.string (((((((⟨#[104, 116, 116, 112, 115]⟩ : ByteArray) ++ (⟨#[58, 47, 47]⟩ : ByteArray)) ++ (⟨#[117, 58, 112, 64]⟩ : ByteArray)) ++ (⟨#[104, 46, 120, 58, 48, 48]⟩ : ByteArray)) ++ I) ++ (⟨#[47, 97]⟩ : ByteArray)) ++ (⟨#[35, 102]⟩ : ByteArray))] W fun e w' => e = .returned (.tuple #[.agg #[.string ⟨#[]⟩, .string ⟨#[]⟩, .string ⟨#[]⟩, .string ⟨#[]⟩, .int .i64 0, .string ⟨#[]⟩, .bool false, .string ⟨#[]⟩, .bool false, .string ⟨#[]⟩], .int .i64 8]) ∧ Below W.heap.size W w') := Lib.hid (by
    intro W hW
    have := uparse_any (((((((⟨#[104, 116, 116, 112, 115]⟩ : ByteArray) ++ (⟨#[58, 47, 47]⟩ : ByteArray)) ++ (⟨#[117, 58, 112, 64]⟩ : ByteArray)) ++ (⟨#[104, 46, 120, 58, 48, 48]⟩ : ByteArray)) ++ I) ++ (⟨#[47, 97]⟩ : ByteArray)) ++ (⟨#[35, 102]⟩ : ByteArray)) (by omega) W hW
    rw [HX.out, parts_url true true false true p (by omega), if_neg (by omega)] at this
    exact this)
  clear hI hIl hml hE
  go_enter Tryz.func8, Tryz.ntmps8
  go_wp2_with fail
  refine (HDC.out _).mono ?_
  rintro e w1 ⟨rfl, hb1⟩
  have HB1 := Lib.hid hb1
  clear hb1
  go_wp2_with fail
  refine (HP.out _ (env_below HE.out HB1.out)).mono ?_
  rintro e w2 ⟨rfl, hb2⟩
  have HB2 := Lib.hid (below_more (below_then HB1.out hb2) (.cells #[.string ⟨#[]⟩, .string ⟨#[]⟩, .string ⟨#[]⟩, .string ⟨#[]⟩, .int .i64 0, .string ⟨#[]⟩, .bool false, .string ⟨#[]⟩, .bool false, .string ⟨#[]⟩] 24))
  clear hb2
  go_wp2_with fail
  refine (HAW.out _ (env_below HE.out HB2.out)).mono ?_
  rintro e w3 ⟨rfl, hb3⟩
  have HB3 := Lib.hid (below_then HB2.out hb3)
  clear hb3
  go_wp2_with fail
  go_ret
  exact ⟨rfl, HB3.out⟩

set_option maxHeartbeats 2000000 in
theorem uparts_1110a (w : World) (hE : Env11 w) :
    Calls Tryz.prog 8 #[.int .i64 443, .bool true, .bool true, .bool false, .bool true] w fun e w' => e = .returned (.bool true) ∧ Below w.heap.size w w' := by
  have HE := Lib.hid hE
  have HAW := Lib.hid (fun W (hW : Env11 W) => uawake_any W hW)
  have HDC := Lib.hid (fun W => udecimal_any 443 (by omega) W)
  have hml := Lib.itoa_length_le 443 (by omega) (by omega)
  obtain ⟨I, hI⟩ : ∃ I : ByteArray, I = ⟨(Lib.itoa 443).toArray⟩ := ⟨_, rfl⟩
  have hIs : I.size ≤ 21 := by rw [hI, mk_size]; omega
  have hIl : I.data.toList = Lib.itoa 443 := by rw [hI]
  rw [← hI] at HDC
  have s0 := part_small ((⟨#[104, 116, 116, 112, 115]⟩ : ByteArray) ++ (⟨#[58, 47, 47]⟩ : ByteArray)) (by simp <;> omega)
  have s1 := part_small (((⟨#[104, 116, 116, 112, 115]⟩ : ByteArray) ++ (⟨#[58, 47, 47]⟩ : ByteArray)) ++ (⟨#[117, 58, 112, 64]⟩ : ByteArray)) (by simp <;> omega)
  have s2 := part_small ((((⟨#[104, 116, 116, 112, 115]⟩ : ByteArray) ++ (⟨#[58, 47, 47]⟩ : ByteArray)) ++ (⟨#[117, 58, 112, 64]⟩ : ByteArray)) ++ (⟨#[104, 46, 120, 58, 48, 48]⟩ : ByteArray)) (by simp <;> omega)
  have s3 := part_small (((((⟨#[104, 116, 116, 112, 115]⟩ : ByteArray) ++ (⟨#[58, 47, 47]⟩ : ByteArray)) ++ (⟨#[117, 58, 112, 64]⟩ : ByteArray)) ++ (⟨#[104, 46, 120, 58, 48, 48]⟩ : ByteArray)) ++ I) (by simp [hIl] <;> omega)
  have s4 := part_small ((((((⟨#[104, 116, 116, 112, 115]⟩ : ByteArray) ++ (⟨#[58, 47, 47]⟩ : ByteArray)) ++ (⟨#[117, 58, 112, 64]⟩ : ByteArray)) ++ (⟨#[104, 46, 120, 58, 48, 48]⟩ : ByteArray)) ++ I) ++ (⟨#[47, 97]⟩ : ByteArray)) (by simp [hIl] <;> omega)
  have s5 := part_small (((((((⟨#[104, 116, 116, 112, 115]⟩ : ByteArray) ++ (⟨#[58, 47, 47]⟩ : ByteArray)) ++ (⟨#[117, 58, 112, 64]⟩ : ByteArray)) ++ (⟨#[104, 46, 120, 58, 48, 48]⟩ : ByteArray)) ++ I) ++ (⟨#[47, 97]⟩ : ByteArray)) ++ (⟨#[63, 113]⟩ : ByteArray)) (by simp [hIl] <;> omega)
  have HX : Hid ((((((((⟨#[104, 116, 116, 112, 115]⟩ : ByteArray) ++ (⟨#[58, 47, 47]⟩ : ByteArray)) ++ (⟨#[117, 58, 112, 64]⟩ : ByteArray)) ++ (⟨#[104, 46, 120, 58, 48, 48]⟩ : ByteArray)) ++ I) ++ (⟨#[47, 97]⟩ : ByteArray)) ++ (⟨#[63, 113]⟩ : ByteArray)).data.toList = partsT true true true false 443) := Lib.hid (by simp [hIl, partsT, httpsL])
  have HU : Hid (partsU true true true false 443 = ⟨[104, 116, 116, 112, 115], [117], [112], [104, 46, 120], (-1), [47, 97], true, [113], false, []⟩) := Lib.hid (by simp [partsU, httpsL])
  have HP : Hid (∀ W, Env11 W → Calls Tryz.prog 10 #[.string (((((((⟨#[104, 116, 116, 112, 115]⟩ : ByteArray) ++ (⟨#[58, 47, 47]⟩ : ByteArray)) ++ (⟨#[117, 58, 112, 64]⟩ : ByteArray)) ++ (⟨#[104, 46, 120, 58, 48, 48]⟩ : ByteArray)) ++ I) ++ (⟨#[47, 97]⟩ : ByteArray)) ++ (⟨#[63, 113]⟩ : ByteArray))] W fun e w' => e = .returned (.tuple #[.agg #[.string ⟨#[104, 116, 116, 112, 115]⟩, .string ⟨#[117]⟩, .string ⟨#[112]⟩, .string ⟨#[104, 46, 120]⟩, .int .i64 (-1), .string ⟨#[47, 97]⟩, .bool true, .string ⟨#[113]⟩, .bool false, .string ⟨#[]⟩], .int .i64 0]) ∧ Below W.heap.size W w') := Lib.hid (by
    intro W hW
    have := uparse_any (((((((⟨#[104, 116, 116, 112, 115]⟩ : ByteArray) ++ (⟨#[58, 47, 47]⟩ : ByteArray)) ++ (⟨#[117, 58, 112, 64]⟩ : ByteArray)) ++ (⟨#[104, 46, 120, 58, 48, 48]⟩ : ByteArray)) ++ I) ++ (⟨#[47, 97]⟩ : ByteArray)) ++ (⟨#[63, 113]⟩ : ByteArray)) (by omega) W hW
    rw [HX.out, parts_url true true true false 443 (by omega), if_pos (by omega), HU.out] at this
    exact this)
  have HPT : Hid (∀ W, Calls Tryz.prog 17 #[.agg #[.string ⟨#[104, 116, 116, 112, 115]⟩, .string ⟨#[117]⟩, .string ⟨#[112]⟩, .string ⟨#[104, 46, 120]⟩, .int .i64 (-1), .string ⟨#[47, 97]⟩, .bool true, .string ⟨#[113]⟩, .bool false, .string ⟨#[]⟩]] W fun e w' => e = .returned (.int .i64 443) ∧ Below W.heap.size W w') := Lib.hid (by
    intro W
    have := uPortU_any ⟨#[104, 116, 116, 112, 115]⟩ ⟨#[117]⟩ ⟨#[112]⟩ ⟨#[104, 46, 120]⟩ ⟨#[47, 97]⟩ ⟨#[113]⟩ ⟨#[]⟩ (-1) true false W
    exact this)
  clear hI hIl hml hE
  go_enter Tryz.func8, Tryz.ntmps8
  go_wp2_with fail
  refine (HDC.out _).mono ?_
  rintro e w1 ⟨rfl, hb1⟩
  have HB1 := Lib.hid hb1
  clear hb1
  go_wp2_with fail
  refine (HP.out _ (env_below HE.out HB1.out)).mono ?_
  rintro e w2 ⟨rfl, hb2⟩
  have HB4 := Lib.hid (below_more (below_more (below_then HB1.out hb2) (.cells #[.string ⟨#[104, 116, 116, 112, 115]⟩, .string ⟨#[117]⟩, .string ⟨#[112]⟩, .string ⟨#[104, 46, 120]⟩, .int .i64 (-1), .string ⟨#[47, 97]⟩, .bool true, .string ⟨#[113]⟩, .bool false, .string ⟨#[]⟩] 24)) (.cells #[.string ⟨#[104, 116, 116, 112, 115]⟩, .string ⟨#[117]⟩, .string ⟨#[112]⟩, .string ⟨#[104, 46, 120]⟩, .int .i64 (-1), .string ⟨#[47, 97]⟩, .bool true, .string ⟨#[113]⟩, .bool false, .string ⟨#[]⟩] 24))
  have HS4 := Lib.hid (Rw.more (Rw.alloc (base := 0) w2 24 #[.string ⟨#[104, 116, 116, 112, 115]⟩, .string ⟨#[117]⟩, .string ⟨#[112]⟩, .string ⟨#[104, 46, 120]⟩, .int .i64 (-1), .string ⟨#[47, 97]⟩, .bool true, .string ⟨#[113]⟩, .bool false, .string ⟨#[]⟩] (Nat.zero_le _)) (.cells #[.string ⟨#[104, 116, 116, 112, 115]⟩, .string ⟨#[117]⟩, .string ⟨#[112]⟩, .string ⟨#[104, 46, 120]⟩, .int .i64 (-1), .string ⟨#[47, 97]⟩, .bool true, .string ⟨#[113]⟩, .bool false, .string ⟨#[]⟩] 24))
  have HR4 := Lib.hid (Rw.alloc (base := 0) (w2.alloc (.cells #[.string ⟨#[104, 116, 116, 112, 115]⟩, .string ⟨#[117]⟩, .string ⟨#[112]⟩, .string ⟨#[104, 46, 120]⟩, .int .i64 (-1), .string ⟨#[47, 97]⟩, .bool true, .string ⟨#[113]⟩, .bool false, .string ⟨#[]⟩] 24)) 24 #[.string ⟨#[104, 116, 116, 112, 115]⟩, .string ⟨#[117]⟩, .string ⟨#[112]⟩, .string ⟨#[104, 46, 120]⟩, .int .i64 (-1), .string ⟨#[47, 97]⟩, .bool true, .string ⟨#[113]⟩, .bool false, .string ⟨#[]⟩] (Nat.zero_le _))
  clear hb2
  have ka0 := Rw.cell HS4.out (j := 0) rfl
  have kb0 := Rw.cell HR4.out (j := 0) rfl
  have ka1 := Rw.cell HS4.out (j := 1) rfl
  have kb1 := Rw.cell HR4.out (j := 1) rfl
  have ka2 := Rw.cell HS4.out (j := 2) rfl
  have kb2 := Rw.cell HR4.out (j := 2) rfl
  have ka3 := Rw.cell HS4.out (j := 3) rfl
  have kb3 := Rw.cell HR4.out (j := 3) rfl
  have ka4 := Rw.cell HS4.out (j := 4) rfl
  have kb4 := Rw.cell HR4.out (j := 4) rfl
  have ka5 := Rw.cell HS4.out (j := 5) rfl
  have kb5 := Rw.cell HR4.out (j := 5) rfl
  have ka6 := Rw.cell HS4.out (j := 6) rfl
  have kb6 := Rw.cell HR4.out (j := 6) rfl
  have ka7 := Rw.cell HS4.out (j := 7) rfl
  have kb7 := Rw.cell HR4.out (j := 7) rfl
  have ka8 := Rw.cell HS4.out (j := 8) rfl
  have kb8 := Rw.cell HR4.out (j := 8) rfl
  have ka9 := Rw.cell HS4.out (j := 9) rfl
  have kb9 := Rw.cell HR4.out (j := 9) rfl
  go_wp2_with fail
  refine (HPT.out _).mono ?_
  rintro e z1 ⟨rfl, hc1⟩
  have HC1 := Lib.hid (below_then HB4.out hc1)
  clear hc1
  go_wp2_with fail
  refine (HAW.out _ (env_below HE.out HC1.out)).mono ?_
  rintro e z2 ⟨rfl, hc2⟩
  have HC2 := Lib.hid (below_then HC1.out hc2)
  clear hc2
  go_wp2_with fail
  go_ret
  exact ⟨rfl, HC2.out⟩

set_option maxHeartbeats 2000000 in
theorem uparts_1110b (p : Int) (hp : 0 ≤ p ∧ p ≤ 65535) (hd : ¬ p = 443) (w : World) (hE : Env11 w) :
    Calls Tryz.prog 8 #[.int .i64 p, .bool true, .bool true, .bool false, .bool true] w fun e w' => e = .returned (.bool true) ∧ Below w.heap.size w w' := by
  have HE := Lib.hid hE
  have HAW := Lib.hid (fun W (hW : Env11 W) => uawake_any W hW)
  have HDC := Lib.hid (fun W => udecimal_any p (by omega) W)
  have hml := Lib.itoa_length_le p (by omega) (by omega)
  obtain ⟨I, hI⟩ : ∃ I : ByteArray, I = ⟨(Lib.itoa p).toArray⟩ := ⟨_, rfl⟩
  have hIs : I.size ≤ 21 := by rw [hI, mk_size]; omega
  have hIl : I.data.toList = Lib.itoa p := by rw [hI]
  rw [← hI] at HDC
  have s0 := part_small ((⟨#[104, 116, 116, 112, 115]⟩ : ByteArray) ++ (⟨#[58, 47, 47]⟩ : ByteArray)) (by simp <;> omega)
  have s1 := part_small (((⟨#[104, 116, 116, 112, 115]⟩ : ByteArray) ++ (⟨#[58, 47, 47]⟩ : ByteArray)) ++ (⟨#[117, 58, 112, 64]⟩ : ByteArray)) (by simp <;> omega)
  have s2 := part_small ((((⟨#[104, 116, 116, 112, 115]⟩ : ByteArray) ++ (⟨#[58, 47, 47]⟩ : ByteArray)) ++ (⟨#[117, 58, 112, 64]⟩ : ByteArray)) ++ (⟨#[104, 46, 120, 58, 48, 48]⟩ : ByteArray)) (by simp <;> omega)
  have s3 := part_small (((((⟨#[104, 116, 116, 112, 115]⟩ : ByteArray) ++ (⟨#[58, 47, 47]⟩ : ByteArray)) ++ (⟨#[117, 58, 112, 64]⟩ : ByteArray)) ++ (⟨#[104, 46, 120, 58, 48, 48]⟩ : ByteArray)) ++ I) (by simp [hIl] <;> omega)
  have s4 := part_small ((((((⟨#[104, 116, 116, 112, 115]⟩ : ByteArray) ++ (⟨#[58, 47, 47]⟩ : ByteArray)) ++ (⟨#[117, 58, 112, 64]⟩ : ByteArray)) ++ (⟨#[104, 46, 120, 58, 48, 48]⟩ : ByteArray)) ++ I) ++ (⟨#[47, 97]⟩ : ByteArray)) (by simp [hIl] <;> omega)
  have s5 := part_small (((((((⟨#[104, 116, 116, 112, 115]⟩ : ByteArray) ++ (⟨#[58, 47, 47]⟩ : ByteArray)) ++ (⟨#[117, 58, 112, 64]⟩ : ByteArray)) ++ (⟨#[104, 46, 120, 58, 48, 48]⟩ : ByteArray)) ++ I) ++ (⟨#[47, 97]⟩ : ByteArray)) ++ (⟨#[63, 113]⟩ : ByteArray)) (by simp [hIl] <;> omega)
  have HX : Hid ((((((((⟨#[104, 116, 116, 112, 115]⟩ : ByteArray) ++ (⟨#[58, 47, 47]⟩ : ByteArray)) ++ (⟨#[117, 58, 112, 64]⟩ : ByteArray)) ++ (⟨#[104, 46, 120, 58, 48, 48]⟩ : ByteArray)) ++ I) ++ (⟨#[47, 97]⟩ : ByteArray)) ++ (⟨#[63, 113]⟩ : ByteArray)).data.toList = partsT true true true false p) := Lib.hid (by simp [hIl, partsT, httpsL])
  have HU : Hid (partsU true true true false p = ⟨[104, 116, 116, 112, 115], [117], [112], [104, 46, 120], p, [47, 97], true, [113], false, []⟩) := Lib.hid (by simp [partsU, httpsL, hd])
  have HP : Hid (∀ W, Env11 W → Calls Tryz.prog 10 #[.string (((((((⟨#[104, 116, 116, 112, 115]⟩ : ByteArray) ++ (⟨#[58, 47, 47]⟩ : ByteArray)) ++ (⟨#[117, 58, 112, 64]⟩ : ByteArray)) ++ (⟨#[104, 46, 120, 58, 48, 48]⟩ : ByteArray)) ++ I) ++ (⟨#[47, 97]⟩ : ByteArray)) ++ (⟨#[63, 113]⟩ : ByteArray))] W fun e w' => e = .returned (.tuple #[.agg #[.string ⟨#[104, 116, 116, 112, 115]⟩, .string ⟨#[117]⟩, .string ⟨#[112]⟩, .string ⟨#[104, 46, 120]⟩, .int .i64 p, .string ⟨#[47, 97]⟩, .bool true, .string ⟨#[113]⟩, .bool false, .string ⟨#[]⟩], .int .i64 0]) ∧ Below W.heap.size W w') := Lib.hid (by
    intro W hW
    have := uparse_any (((((((⟨#[104, 116, 116, 112, 115]⟩ : ByteArray) ++ (⟨#[58, 47, 47]⟩ : ByteArray)) ++ (⟨#[117, 58, 112, 64]⟩ : ByteArray)) ++ (⟨#[104, 46, 120, 58, 48, 48]⟩ : ByteArray)) ++ I) ++ (⟨#[47, 97]⟩ : ByteArray)) ++ (⟨#[63, 113]⟩ : ByteArray)) (by omega) W hW
    rw [HX.out, parts_url true true true false p (by omega), if_pos (by omega), HU.out] at this
    exact this)
  have HPT : Hid (∀ W, Calls Tryz.prog 17 #[.agg #[.string ⟨#[104, 116, 116, 112, 115]⟩, .string ⟨#[117]⟩, .string ⟨#[112]⟩, .string ⟨#[104, 46, 120]⟩, .int .i64 p, .string ⟨#[47, 97]⟩, .bool true, .string ⟨#[113]⟩, .bool false, .string ⟨#[]⟩]] W fun e w' => e = .returned (.int .i64 p) ∧ Below W.heap.size W w') := Lib.hid (by
    intro W
    have := uPortU_any ⟨#[104, 116, 116, 112, 115]⟩ ⟨#[117]⟩ ⟨#[112]⟩ ⟨#[104, 46, 120]⟩ ⟨#[47, 97]⟩ ⟨#[113]⟩ ⟨#[]⟩ p true false W
    rw [if_neg (by omega)] at this
    exact this)
  clear hI hIl hml hE
  go_enter Tryz.func8, Tryz.ntmps8
  go_wp2_with fail
  refine (HDC.out _).mono ?_
  rintro e w1 ⟨rfl, hb1⟩
  have HB1 := Lib.hid hb1
  clear hb1
  go_wp2_with fail
  refine (HP.out _ (env_below HE.out HB1.out)).mono ?_
  rintro e w2 ⟨rfl, hb2⟩
  have HB4 := Lib.hid (below_more (below_more (below_then HB1.out hb2) (.cells #[.string ⟨#[104, 116, 116, 112, 115]⟩, .string ⟨#[117]⟩, .string ⟨#[112]⟩, .string ⟨#[104, 46, 120]⟩, .int .i64 p, .string ⟨#[47, 97]⟩, .bool true, .string ⟨#[113]⟩, .bool false, .string ⟨#[]⟩] 24)) (.cells #[.string ⟨#[104, 116, 116, 112, 115]⟩, .string ⟨#[117]⟩, .string ⟨#[112]⟩, .string ⟨#[104, 46, 120]⟩, .int .i64 p, .string ⟨#[47, 97]⟩, .bool true, .string ⟨#[113]⟩, .bool false, .string ⟨#[]⟩] 24))
  have HS4 := Lib.hid (Rw.more (Rw.alloc (base := 0) w2 24 #[.string ⟨#[104, 116, 116, 112, 115]⟩, .string ⟨#[117]⟩, .string ⟨#[112]⟩, .string ⟨#[104, 46, 120]⟩, .int .i64 p, .string ⟨#[47, 97]⟩, .bool true, .string ⟨#[113]⟩, .bool false, .string ⟨#[]⟩] (Nat.zero_le _)) (.cells #[.string ⟨#[104, 116, 116, 112, 115]⟩, .string ⟨#[117]⟩, .string ⟨#[112]⟩, .string ⟨#[104, 46, 120]⟩, .int .i64 p, .string ⟨#[47, 97]⟩, .bool true, .string ⟨#[113]⟩, .bool false, .string ⟨#[]⟩] 24))
  have HR4 := Lib.hid (Rw.alloc (base := 0) (w2.alloc (.cells #[.string ⟨#[104, 116, 116, 112, 115]⟩, .string ⟨#[117]⟩, .string ⟨#[112]⟩, .string ⟨#[104, 46, 120]⟩, .int .i64 p, .string ⟨#[47, 97]⟩, .bool true, .string ⟨#[113]⟩, .bool false, .string ⟨#[]⟩] 24)) 24 #[.string ⟨#[104, 116, 116, 112, 115]⟩, .string ⟨#[117]⟩, .string ⟨#[112]⟩, .string ⟨#[104, 46, 120]⟩, .int .i64 p, .string ⟨#[47, 97]⟩, .bool true, .string ⟨#[113]⟩, .bool false, .string ⟨#[]⟩] (Nat.zero_le _))
  clear hb2
  have ka0 := Rw.cell HS4.out (j := 0) rfl
  have kb0 := Rw.cell HR4.out (j := 0) rfl
  have ka1 := Rw.cell HS4.out (j := 1) rfl
  have kb1 := Rw.cell HR4.out (j := 1) rfl
  have ka2 := Rw.cell HS4.out (j := 2) rfl
  have kb2 := Rw.cell HR4.out (j := 2) rfl
  have ka3 := Rw.cell HS4.out (j := 3) rfl
  have kb3 := Rw.cell HR4.out (j := 3) rfl
  have ka4 := Rw.cell HS4.out (j := 4) rfl
  have kb4 := Rw.cell HR4.out (j := 4) rfl
  have ka5 := Rw.cell HS4.out (j := 5) rfl
  have kb5 := Rw.cell HR4.out (j := 5) rfl
  have ka6 := Rw.cell HS4.out (j := 6) rfl
  have kb6 := Rw.cell HR4.out (j := 6) rfl
  have ka7 := Rw.cell HS4.out (j := 7) rfl
  have kb7 := Rw.cell HR4.out (j := 7) rfl
  have ka8 := Rw.cell HS4.out (j := 8) rfl
  have kb8 := Rw.cell HR4.out (j := 8) rfl
  have ka9 := Rw.cell HS4.out (j := 9) rfl
  have kb9 := Rw.cell HR4.out (j := 9) rfl
  go_wp2_with fail
  refine (HPT.out _).mono ?_
  rintro e z1 ⟨rfl, hc1⟩
  have HC1 := Lib.hid (below_then HB4.out hc1)
  clear hc1
  go_wp2_with fail
  refine (HAW.out _ (env_below HE.out HC1.out)).mono ?_
  rintro e z2 ⟨rfl, hc2⟩
  have HC2 := Lib.hid (below_then HC1.out hc2)
  clear hc2
  go_wp2_with fail
  go_ret
  exact ⟨rfl, HC2.out⟩

set_option maxHeartbeats 2000000 in
theorem uparts_1110c (p : Int) (hp : 65535 < p ∧ p ≤ 70000) (w : World) (hE : Env11 w) :
    Calls Tryz.prog 8 #[.int .i64 p, .bool true, .bool true, .bool false, .bool true] w fun e w' => e = .returned (.bool true) ∧ Below w.heap.size w w' := by
  have HE := Lib.hid hE
  have HAW := Lib.hid (fun W (hW : Env11 W) => uawake_any W hW)
  have HDC := Lib.hid (fun W => udecimal_any p (by omega) W)
  have hml := Lib.itoa_length_le p (by omega) (by omega)
  obtain ⟨I, hI⟩ : ∃ I : ByteArray, I = ⟨(Lib.itoa p).toArray⟩ := ⟨_, rfl⟩
  have hIs : I.size ≤ 21 := by rw [hI, mk_size]; omega
  have hIl : I.data.toList = Lib.itoa p := by rw [hI]
  rw [← hI] at HDC
  have s0 := part_small ((⟨#[104, 116, 116, 112, 115]⟩ : ByteArray) ++ (⟨#[58, 47, 47]⟩ : ByteArray)) (by simp <;> omega)
  have s1 := part_small (((⟨#[104, 116, 116, 112, 115]⟩ : ByteArray) ++ (⟨#[58, 47, 47]⟩ : ByteArray)) ++ (⟨#[117, 58, 112, 64]⟩ : ByteArray)) (by simp <;> omega)
  have s2 := part_small ((((⟨#[104, 116, 116, 112, 115]⟩ : ByteArray) ++ (⟨#[58, 47, 47]⟩ : ByteArray)) ++ (⟨#[117, 58, 112, 64]⟩ : ByteArray)) ++ (⟨#[104, 46, 120, 58, 48, 48]⟩ : ByteArray)) (by simp <;> omega)
  have s3 := part_small (((((⟨#[104, 116, 116, 112, 115]⟩ : ByteArray) ++ (⟨#[58, 47, 47]⟩ : ByteArray)) ++ (⟨#[117, 58, 112, 64]⟩ : ByteArray)) ++ (⟨#[104, 46, 120, 58, 48, 48]⟩ : ByteArray)) ++ I) (by simp [hIl] <;> omega)
  have s4 := part_small ((((((⟨#[104, 116, 116, 112, 115]⟩ : ByteArray) ++ (⟨#[58, 47, 47]⟩ : ByteArray)) ++ (⟨#[117, 58, 112, 64]⟩ : ByteArray)) ++ (⟨#[104, 46, 120, 58, 48, 48]⟩ : ByteArray)) ++ I) ++ (⟨#[47, 97]⟩ : ByteArray)) (by simp [hIl] <;> omega)
  have s5 := part_small (((((((⟨#[104, 116, 116, 112, 115]⟩ : ByteArray) ++ (⟨#[58, 47, 47]⟩ : ByteArray)) ++ (⟨#[117, 58, 112, 64]⟩ : ByteArray)) ++ (⟨#[104, 46, 120, 58, 48, 48]⟩ : ByteArray)) ++ I) ++ (⟨#[47, 97]⟩ : ByteArray)) ++ (⟨#[63, 113]⟩ : ByteArray)) (by simp [hIl] <;> omega)
  have HX : Hid ((((((((⟨#[104, 116, 116, 112, 115]⟩ : ByteArray) ++ (⟨#[58, 47, 47]⟩ : ByteArray)) ++ (⟨#[117, 58, 112, 64]⟩ : ByteArray)) ++ (⟨#[104, 46, 120, 58, 48, 48]⟩ : ByteArray)) ++ I) ++ (⟨#[47, 97]⟩ : ByteArray)) ++ (⟨#[63, 113]⟩ : ByteArray)).data.toList = partsT true true true false p) := Lib.hid (by simp [hIl, partsT, httpsL])
  have HP : Hid (∀ W, Env11 W → Calls Tryz.prog 10 #[.string (((((((⟨#[104, 116, 116, 112, 115]⟩ : ByteArray) ++ (⟨#[58, 47, 47]⟩ : ByteArray)) ++ (⟨#[117, 58, 112, 64]⟩ : ByteArray)) ++ (⟨#[104, 46, 120, 58, 48, 48]⟩ : ByteArray)) ++ I) ++ (⟨#[47, 97]⟩ : ByteArray)) ++ (⟨#[63, 113]⟩ : ByteArray))] W fun e w' => e = .returned (.tuple #[.agg #[.string ⟨#[]⟩, .string ⟨#[]⟩, .string ⟨#[]⟩, .string ⟨#[]⟩, .int .i64 0, .string ⟨#[]⟩, .bool false, .string ⟨#[]⟩, .bool false, .string ⟨#[]⟩], .int .i64 8]) ∧ Below W.heap.size W w') := Lib.hid (by
    intro W hW
    have := uparse_any (((((((⟨#[104, 116, 116, 112, 115]⟩ : ByteArray) ++ (⟨#[58, 47, 47]⟩ : ByteArray)) ++ (⟨#[117, 58, 112, 64]⟩ : ByteArray)) ++ (⟨#[104, 46, 120, 58, 48, 48]⟩ : ByteArray)) ++ I) ++ (⟨#[47, 97]⟩ : ByteArray)) ++ (⟨#[63, 113]⟩ : ByteArray)) (by omega) W hW
    rw [HX.out, parts_url true true true false p (by omega), if_neg (by omega)] at this
    exact this)
  clear hI hIl hml hE
  go_enter Tryz.func8, Tryz.ntmps8
  go_wp2_with fail
  refine (HDC.out _).mono ?_
  rintro e w1 ⟨rfl, hb1⟩
  have HB1 := Lib.hid hb1
  clear hb1
  go_wp2_with fail
  refine (HP.out _ (env_below HE.out HB1.out)).mono ?_
  rintro e w2 ⟨rfl, hb2⟩
  have HB2 := Lib.hid (below_more (below_then HB1.out hb2) (.cells #[.string ⟨#[]⟩, .string ⟨#[]⟩, .string ⟨#[]⟩, .string ⟨#[]⟩, .int .i64 0, .string ⟨#[]⟩, .bool false, .string ⟨#[]⟩, .bool false, .string ⟨#[]⟩] 24))
  clear hb2
  go_wp2_with fail
  refine (HAW.out _ (env_below HE.out HB2.out)).mono ?_
  rintro e w3 ⟨rfl, hb3⟩
  have HB3 := Lib.hid (below_then HB2.out hb3)
  clear hb3
  go_wp2_with fail
  go_ret
  exact ⟨rfl, HB3.out⟩

set_option maxHeartbeats 2000000 in
theorem uparts_1111a (w : World) (hE : Env11 w) :
    Calls Tryz.prog 8 #[.int .i64 443, .bool true, .bool true, .bool true, .bool true] w fun e w' => e = .returned (.bool true) ∧ Below w.heap.size w w' := by
  have HE := Lib.hid hE
  have HAW := Lib.hid (fun W (hW : Env11 W) => uawake_any W hW)
  have HDC := Lib.hid (fun W => udecimal_any 443 (by omega) W)
  have hml := Lib.itoa_length_le 443 (by omega) (by omega)
  obtain ⟨I, hI⟩ : ∃ I : ByteArray, I = ⟨(Lib.itoa 443).toArray⟩ := ⟨_, rfl⟩
  have hIs : I.size ≤ 21 := by rw [hI, mk_size]; omega
  have hIl : I.data.toList = Lib.itoa 443 := by rw [hI]
  rw [← hI] at HDC
  have s0 := part_small ((⟨#[104, 116, 116, 112, 115]⟩ : ByteArray) ++ (⟨#[58, 47, 47]⟩ : ByteArray)) (by simp <;> omega)
  have s1 := part_small (((⟨#[104, 116, 116, 112, 115]⟩ : ByteArray) ++ (⟨#[58, 47, 47]⟩ : ByteArray)) ++ (⟨#[117, 58, 112, 64]⟩ : ByteArray)) (by simp <;> omega)
  have s2 := part_small ((((⟨#[104, 116, 116, 112, 115]⟩ : ByteArray) ++ (⟨#[58, 47, 47]⟩ : ByteArray)) ++ (⟨#[117, 58, 112, 64]⟩ : ByteArray)) ++ (⟨#[104, 46, 120, 58, 48, 48]⟩ : ByteArray)) (by simp <;> omega)
  have s3 := part_small (((((⟨#[104, 116, 116, 112, 115]⟩ : ByteArray) ++ (⟨#[58, 47, 47]⟩ : ByteArray)) ++ (⟨#[117, 58, 112, 64]⟩ : ByteArray)) ++ (⟨#[104, 46, 120, 58, 48, 48]⟩ : ByteArray)) ++ I) (by simp [hIl] <;> omega)
  have s4 := part_small ((((((⟨#[104, 116, 116, 112, 115]⟩ : ByteArray) ++ (⟨#[58, 47, 47]⟩ : ByteArray)) ++ (⟨#[117, 58, 112, 64]⟩ : ByteArray)) ++ (⟨#[104, 46, 120, 58, 48, 48]⟩ : ByteArray)) ++ I) ++ (⟨#[47, 97]⟩ : ByteArray)) (by simp [hIl] <;> omega)
  have s5 := part_small (((((((⟨#[104, 116, 116, 112, 115]⟩ : ByteArray) ++ (⟨#[58, 47, 47]⟩ : ByteArray)) ++ (⟨#[117, 58, 112, 64]⟩ : ByteArray)) ++ (⟨#[104, 46, 120, 58, 48, 48]⟩ : ByteArray)) ++ I) ++ (⟨#[47, 97]⟩ : ByteArray)) ++ (⟨#[63, 113]⟩ : ByteArray)) (by simp [hIl] <;> omega)
  have s6 := part_small ((((((((⟨#[104, 116, 116, 112, 115]⟩ : ByteArray) ++ (⟨#[58, 47, 47]⟩ : ByteArray)) ++ (⟨#[117, 58, 112, 64]⟩ : ByteArray)) ++ (⟨#[104, 46, 120, 58, 48, 48]⟩ : ByteArray)) ++ I) ++ (⟨#[47, 97]⟩ : ByteArray)) ++ (⟨#[63, 113]⟩ : ByteArray)) ++ (⟨#[35, 102]⟩ : ByteArray)) (by simp [hIl] <;> omega)
  have HX : Hid (((((((((⟨#[104, 116, 116, 112, 115]⟩ : ByteArray) ++ (⟨#[58, 47, 47]⟩ : ByteArray)) ++ (⟨#[117, 58, 112, 64]⟩ : ByteArray)) ++ (⟨#[104, 46, 120, 58, 48, 48]⟩ : ByteArray)) ++ I) ++ (⟨#[47, 97]⟩ : ByteArray)) ++ (⟨#[63, 113]⟩ : ByteArray)) ++ (⟨#[35, 102]⟩ : ByteArray)).data.toList = partsT true true true true 443) := Lib.hid (by simp [hIl, partsT, httpsL])
  have HU : Hid (partsU true true true true 443 = ⟨[104, 116, 116, 112, 115], [117], [112], [104, 46, 120], (-1), [47, 97], true, [113], true, [102]⟩) := Lib.hid (by simp [partsU, httpsL])
  have HP : Hid (∀ W, Env11 W → Calls Tryz.prog 10 #[.string ((((((((⟨#[104, 116, 116, 112, 115]⟩ : ByteArray) ++ (⟨#[58, 47, 47]⟩ : ByteArray)) ++ (⟨#[117, 58, 112, 64]⟩ : ByteArray)) ++ (⟨#[104, 46, 120, 58, 48, 48]⟩ : ByteArray)) ++ I) ++ (⟨#[47, 97]⟩ : ByteArray)) ++ (⟨#[63, 113]⟩ : ByteArray)) ++ (⟨#[35, 102]⟩ : ByteArray))] W fun e w' => e = .returned (.tuple #[.agg #[.string ⟨#[104, 116, 116, 112, 115]⟩, .string ⟨#[117]⟩, .string ⟨#[112]⟩, .string ⟨#[104, 46, 120]⟩, .int .i64 (-1), .string ⟨#[47, 97]⟩, .bool true, .string ⟨#[113]⟩, .bool true, .string ⟨#[102]⟩], .int .i64 0]) ∧ Below W.heap.size W w') := Lib.hid (by
    intro W hW
    have := uparse_any ((((((((⟨#[104, 116, 116, 112, 115]⟩ : ByteArray) ++ (⟨#[58, 47, 47]⟩ : ByteArray)) ++ (⟨#[117, 58, 112, 64]⟩ : ByteArray)) ++ (⟨#[104, 46, 120, 58, 48, 48]⟩ : ByteArray)) ++ I) ++ (⟨#[47, 97]⟩ : ByteArray)) ++ (⟨#[63, 113]⟩ : ByteArray)) ++ (⟨#[35, 102]⟩ : ByteArray)) (by omega) W hW
    rw [HX.out, parts_url true true true true 443 (by omega), if_pos (by omega), HU.out] at this
    exact this)
  have HPT : Hid (∀ W, Calls Tryz.prog 17 #[.agg #[.string ⟨#[104, 116, 116, 112, 115]⟩, .string ⟨#[117]⟩, .string ⟨#[112]⟩, .string ⟨#[104, 46, 120]⟩, .int .i64 (-1), .string ⟨#[47, 97]⟩, .bool true, .string ⟨#[113]⟩, .bool true, .string ⟨#[102]⟩]] W fun e w' => e = .returned (.int .i64 443) ∧ Below W.heap.size W w') := Lib.hid (by
    intro W
    have := uPortU_any ⟨#[104, 116, 116, 112, 115]⟩ ⟨#[117]⟩ ⟨#[112]⟩ ⟨#[104, 46, 120]⟩ ⟨#[47, 97]⟩ ⟨#[113]⟩ ⟨#[102]⟩ (-1) true true W
    exact this)
  clear hI hIl hml hE
  go_enter Tryz.func8, Tryz.ntmps8
  go_wp2_with fail
  refine (HDC.out _).mono ?_
  rintro e w1 ⟨rfl, hb1⟩
  have HB1 := Lib.hid hb1
  clear hb1
  go_wp2_with fail
  refine (HP.out _ (env_below HE.out HB1.out)).mono ?_
  rintro e w2 ⟨rfl, hb2⟩
  have HB4 := Lib.hid (below_more (below_more (below_then HB1.out hb2) (.cells #[.string ⟨#[104, 116, 116, 112, 115]⟩, .string ⟨#[117]⟩, .string ⟨#[112]⟩, .string ⟨#[104, 46, 120]⟩, .int .i64 (-1), .string ⟨#[47, 97]⟩, .bool true, .string ⟨#[113]⟩, .bool true, .string ⟨#[102]⟩] 24)) (.cells #[.string ⟨#[104, 116, 116, 112, 115]⟩, .string ⟨#[117]⟩, .string ⟨#[112]⟩, .string ⟨#[104, 46, 120]⟩, .int .i64 (-1), .string ⟨#[47, 97]⟩, .bool true, .string ⟨#[113]⟩, .bool true, .string ⟨#[102]⟩] 24))
  have HS4 := Lib.hid (Rw.more (Rw.alloc (base := 0) w2 24 #[.string ⟨#[104, 116, 116, 112, 115]⟩, .string ⟨#[117]⟩, .string ⟨#[112]⟩, .string ⟨#[104, 46, 120]⟩, .int .i64 (-1), .string ⟨#[47, 97]⟩, .bool true, .string ⟨#[113]⟩, .bool true, .string ⟨#[102]⟩] (Nat.zero_le _)) (.cells #[.string ⟨#[104, 116, 116, 112, 115]⟩, .string ⟨#[117]⟩, .string ⟨#[112]⟩, .string ⟨#[104, 46, 120]⟩, .int .i64 (-1), .string ⟨#[47, 97]⟩, .bool true, .string ⟨#[113]⟩, .bool true, .string ⟨#[102]⟩] 24))
  have HR4 := Lib.hid (Rw.alloc (base := 0) (w2.alloc (.cells #[.string ⟨#[104, 116, 116, 112, 115]⟩, .string ⟨#[117]⟩, .string ⟨#[112]⟩, .string ⟨#[104, 46, 120]⟩, .int .i64 (-1), .string ⟨#[47, 97]⟩, .bool true, .string ⟨#[113]⟩, .bool true, .string ⟨#[102]⟩] 24)) 24 #[.string ⟨#[104, 116, 116, 112, 115]⟩, .string ⟨#[117]⟩, .string ⟨#[112]⟩, .string ⟨#[104, 46, 120]⟩, .int .i64 (-1), .string ⟨#[47, 97]⟩, .bool true, .string ⟨#[113]⟩, .bool true, .string ⟨#[102]⟩] (Nat.zero_le _))
  clear hb2
  have ka0 := Rw.cell HS4.out (j := 0) rfl
  have kb0 := Rw.cell HR4.out (j := 0) rfl
  have ka1 := Rw.cell HS4.out (j := 1) rfl
  have kb1 := Rw.cell HR4.out (j := 1) rfl
  have ka2 := Rw.cell HS4.out (j := 2) rfl
  have kb2 := Rw.cell HR4.out (j := 2) rfl
  have ka3 := Rw.cell HS4.out (j := 3) rfl
  have kb3 := Rw.cell HR4.out (j := 3) rfl
  have ka4 := Rw.cell HS4.out (j := 4) rfl
  have kb4 := Rw.cell HR4.out (j := 4) rfl
  have ka5 := Rw.cell HS4.out (j := 5) rfl
  have kb5 := Rw.cell HR4.out (j := 5) rfl
  have ka6 := Rw.cell HS4.out (j := 6) rfl
  have kb6 := Rw.cell HR4.out (j := 6) rfl
  have ka7 := Rw.cell HS4.out (j := 7) rfl
  have kb7 := Rw.cell HR4.out (j := 7) rfl
  have ka8 := Rw.cell HS4.out (j := 8) rfl
  have kb8 := Rw.cell HR4.out (j := 8) rfl
  have ka9 := Rw.cell HS4.out (j := 9) rfl
  have kb9 := Rw.cell HR4.out (j := 9) rfl
  go_wp2_with fail
  refine (HPT.out _).mono ?_
  rintro e z1 ⟨rfl, hc1⟩
  have HC1 := Lib.hid (below_then HB4.out hc1)
  clear hc1
  go_wp2_with fail
  refine (HAW.out _ (env_below HE.out HC1.out)).mono ?_
  rintro e z2 ⟨rfl, hc2⟩
  have HC2 := Lib.hid (below_then HC1.out hc2)
  clear hc2
  go_wp2_with fail
  go_ret
  exact ⟨rfl, HC2.out⟩

set_option maxHeartbeats 2000000 in
theorem uparts_1111b (p : Int) (hp : 0 ≤ p ∧ p ≤ 65535) (hd : ¬ p = 443) (w : World) (hE : Env11 w) :
    Calls Tryz.prog 8 #[.int .i64 p, .bool true, .bool true, .bool true, .bool true] w fun e w' => e = .returned (.bool true) ∧ Below w.heap.size w w' := by
  have HE := Lib.hid hE
  have HAW := Lib.hid (fun W (hW : Env11 W) => uawake_any W hW)
  have HDC := Lib.hid (fun W => udecimal_any p (by omega) W)
  have hml := Lib.itoa_length_le p (by omega) (by omega)
  obtain ⟨I, hI⟩ : ∃ I : ByteArray, I = ⟨(Lib.itoa p).toArray⟩ := ⟨_, rfl⟩
  have hIs : I.size ≤ 21 := by rw [hI, mk_size]; omega
  have hIl : I.data.toList = Lib.itoa p := by rw [hI]
  rw [← hI] at HDC
  have s0 := part_small ((⟨#[104, 116, 116, 112, 115]⟩ : ByteArray) ++ (⟨#[58, 47, 47]⟩ : ByteArray)) (by simp <;> omega)
  have s1 := part_small (((⟨#[104, 116, 116, 112, 115]⟩ : ByteArray) ++ (⟨#[58, 47, 47]⟩ : ByteArray)) ++ (⟨#[117, 58, 112, 64]⟩ : ByteArray)) (by simp <;> omega)
  have s2 := part_small ((((⟨#[104, 116, 116, 112, 115]⟩ : ByteArray) ++ (⟨#[58, 47, 47]⟩ : ByteArray)) ++ (⟨#[117, 58, 112, 64]⟩ : ByteArray)) ++ (⟨#[104, 46, 120, 58, 48, 48]⟩ : ByteArray)) (by simp <;> omega)
  have s3 := part_small (((((⟨#[104, 116, 116, 112, 115]⟩ : ByteArray) ++ (⟨#[58, 47, 47]⟩ : ByteArray)) ++ (⟨#[117, 58, 112, 64]⟩ : ByteArray)) ++ (⟨#[104, 46, 120, 58, 48, 48]⟩ : ByteArray)) ++ I) (by simp [hIl] <;> omega)
  have s4 := part_small ((((((⟨#[104, 116, 116, 112, 115]⟩ : ByteArray) ++ (⟨#[58, 47, 47]⟩ : ByteArray)) ++ (⟨#[117, 58, 112, 64]⟩ : ByteArray)) ++ (⟨#[104, 46, 120, 58, 48, 48]⟩ : ByteArray)) ++ I) ++ (⟨#[47, 97]⟩ : ByteArray)) (by simp [hIl] <;> omega)
  have s5 := part_small (((((((⟨#[104, 116, 116, 112, 115]⟩ : ByteArray) ++ (⟨#[58, 47, 47]⟩ : ByteArray)) ++ (⟨#[117, 58, 112, 64]⟩ : ByteArray)) ++ (⟨#[104, 46, 120, 58, 48, 48]⟩ : ByteArray)) ++ I) ++ (⟨#[47, 97]⟩ : ByteArray)) ++ (⟨#[63, 113]⟩ : ByteArray)) (by simp [hIl] <;> omega)
  have s6 := part_small ((((((((⟨#[104, 116, 116, 112, 115]⟩ : ByteArray) ++ (⟨#[58, 47, 47]⟩ : ByteArray)) ++ (⟨#[117, 58, 112, 64]⟩ : ByteArray)) ++ (⟨#[104, 46, 120, 58, 48, 48]⟩ : ByteArray)) ++ I) ++ (⟨#[47, 97]⟩ : ByteArray)) ++ (⟨#[63, 113]⟩ : ByteArray)) ++ (⟨#[35, 102]⟩ : ByteArray)) (by simp [hIl] <;> omega)
  have HX : Hid (((((((((⟨#[104, 116, 116, 112, 115]⟩ : ByteArray) ++ (⟨#[58, 47, 47]⟩ : ByteArray)) ++ (⟨#[117, 58, 112, 64]⟩ : ByteArray)) ++ (⟨#[104, 46, 120, 58, 48, 48]⟩ : ByteArray)) ++ I) ++ (⟨#[47, 97]⟩ : ByteArray)) ++ (⟨#[63, 113]⟩ : ByteArray)) ++ (⟨#[35, 102]⟩ : ByteArray)).data.toList = partsT true true true true p) := Lib.hid (by simp [hIl, partsT, httpsL])
  have HU : Hid (partsU true true true true p = ⟨[104, 116, 116, 112, 115], [117], [112], [104, 46, 120], p, [47, 97], true, [113], true, [102]⟩) := Lib.hid (by simp [partsU, httpsL, hd])
  have HP : Hid (∀ W, Env11 W → Calls Tryz.prog 10 #[.string ((((((((⟨#[104, 116, 116, 112, 115]⟩ : ByteArray) ++ (⟨#[58, 47, 47]⟩ : ByteArray)) ++ (⟨#[117, 58, 112, 64]⟩ : ByteArray)) ++ (⟨#[104, 46, 120, 58, 48, 48]⟩ : ByteArray)) ++ I) ++ (⟨#[47, 97]⟩ : ByteArray)) ++ (⟨#[63, 113]⟩ : ByteArray)) ++ (⟨#[35, 102]⟩ : ByteArray))] W fun e w' => e = .returned (.tuple #[.agg #[.string ⟨#[104, 116, 116, 112, 115]⟩, .string ⟨#[117]⟩, .string ⟨#[112]⟩, .string ⟨#[104, 46, 120]⟩, .int .i64 p, .string ⟨#[47, 97]⟩, .bool true, .string ⟨#[113]⟩, .bool true, .string ⟨#[102]⟩], .int .i64 0]) ∧ Below W.heap.size W w') := Lib.hid (by
    intro W hW
    have := uparse_any ((((((((⟨#[104, 116, 116, 112, 115]⟩ : ByteArray) ++ (⟨#[58, 47, 47]⟩ : ByteArray)) ++ (⟨#[117, 58, 112, 64]⟩ : ByteArray)) ++ (⟨#[104, 46, 120, 58, 48, 48]⟩ : ByteArray)) ++ I) ++ (⟨#[47, 97]⟩ : ByteArray)) ++ (⟨#[63, 113]⟩ : ByteArray)) ++ (⟨#[35, 102]⟩ : ByteArray)) (by omega) W hW
    rw [HX.out, parts_url true true true true p (by omega), if_pos (by omega), HU.out] at this
    exact this)
  have HPT : Hid (∀ W, Calls Tryz.prog 17 #[.agg #[.string ⟨#[104, 116, 116, 112, 115]⟩, .string ⟨#[117]⟩, .string ⟨#[112]⟩, .string ⟨#[104, 46, 120]⟩, .int .i64 p, .string ⟨#[47, 97]⟩, .bool true, .string ⟨#[113]⟩, .bool true, .string ⟨#[102]⟩]] W fun e w' => e = .returned (.int .i64 p) ∧ Below W.heap.size W w') := Lib.hid (by
    intro W
    have := uPortU_any ⟨#[104, 116, 116, 112, 115]⟩ ⟨#[117]⟩ ⟨#[112]⟩ ⟨#[104, 46, 120]⟩ ⟨#[47, 97]⟩ ⟨#[113]⟩ ⟨#[102]⟩ p true true W
    rw [if_neg (by omega)] at this
    exact this)
  clear hI hIl hml hE
  go_enter Tryz.func8, Tryz.ntmps8
  go_wp2_with fail
  refine (HDC.out _).mono ?_
  rintro e w1 ⟨rfl, hb1⟩
  have HB1 := Lib.hid hb1
  clear hb1
  go_wp2_with fail
  refine (HP.out _ (env_below HE.out HB1.out)).mono ?_
  rintro e w2 ⟨rfl, hb2⟩
  have HB4 := Lib.hid (below_more (below_more (below_then HB1.out hb2) (.cells #[.string ⟨#[104, 116, 116, 112, 115]⟩, .string ⟨#[117]⟩, .string ⟨#[112]⟩, .string ⟨#[104, 46, 120]⟩, .int .i64 p, .string ⟨#[47, 97]⟩, .bool true, .string ⟨#[113]⟩, .bool true, .string ⟨#[102]⟩] 24)) (.cells #[.string ⟨#[104, 116, 116, 112, 115]⟩, .string ⟨#[117]⟩, .string ⟨#[112]⟩, .string ⟨#[104, 46, 120]⟩, .int .i64 p, .string ⟨#[47, 97]⟩, .bool true, .string ⟨#[113]⟩, .bool true, .string ⟨#[102]⟩] 24))
  have HS4 := Lib.hid (Rw.more (Rw.alloc (base := 0) w2 24 #[.string ⟨#[104, 116, 116, 112, 115]⟩, .string ⟨#[117]⟩, .string ⟨#[112]⟩, .string ⟨#[104, 46, 120]⟩, .int .i64 p, .string ⟨#[47, 97]⟩, .bool true, .string ⟨#[113]⟩, .bool true, .string ⟨#[102]⟩] (Nat.zero_le _)) (.cells #[.string ⟨#[104, 116, 116, 112, 115]⟩, .string ⟨#[117]⟩, .string ⟨#[112]⟩, .string ⟨#[104, 46, 120]⟩, .int .i64 p, .string ⟨#[47, 97]⟩, .bool true, .string ⟨#[113]⟩, .bool true, .string ⟨#[102]⟩] 24))
  have HR4 := Lib.hid (Rw.alloc (base := 0) (w2.alloc (.cells #[.string ⟨#[104, 116, 116, 112, 115]⟩, .string ⟨#[117]⟩, .string ⟨#[112]⟩, .string ⟨#[104, 46, 120]⟩, .int .i64 p, .string ⟨#[47, 97]⟩, .bool true, .string ⟨#[113]⟩, .bool true, .string ⟨#[102]⟩] 24)) 24 #[.string ⟨#[104, 116, 116, 112, 115]⟩, .string ⟨#[117]⟩, .string ⟨#[112]⟩, .string ⟨#[104, 46, 120]⟩, .int .i64 p, .string ⟨#[47, 97]⟩, .bool true, .string ⟨#[113]⟩, .bool true, .string ⟨#[102]⟩] (Nat.zero_le _))
  clear hb2
  have ka0 := Rw.cell HS4.out (j := 0) rfl
  have kb0 := Rw.cell HR4.out (j := 0) rfl
  have ka1 := Rw.cell HS4.out (j := 1) rfl
  have kb1 := Rw.cell HR4.out (j := 1) rfl
  have ka2 := Rw.cell HS4.out (j := 2) rfl
  have kb2 := Rw.cell HR4.out (j := 2) rfl
  have ka3 := Rw.cell HS4.out (j := 3) rfl
  have kb3 := Rw.cell HR4.out (j := 3) rfl
  have ka4 := Rw.cell HS4.out (j := 4) rfl
  have kb4 := Rw.cell HR4.out (j := 4) rfl
  have ka5 := Rw.cell HS4.out (j := 5) rfl
  have kb5 := Rw.cell HR4.out (j := 5) rfl
  have ka6 := Rw.cell HS4.out (j := 6) rfl
  have kb6 := Rw.cell HR4.out (j := 6) rfl
  have ka7 := Rw.cell HS4.out (j := 7) rfl
  have kb7 := Rw.cell HR4.out (j := 7) rfl
  have ka8 := Rw.cell HS4.out (j := 8) rfl
  have kb8 := Rw.cell HR4.out (j := 8) rfl
  have ka9 := Rw.cell HS4.out (j := 9) rfl
  have kb9 := Rw.cell HR4.out (j := 9) rfl
  go_wp2_with fail
  refine (HPT.out _).mono ?_
  rintro e z1 ⟨rfl, hc1⟩
  have HC1 := Lib.hid (below_then HB4.out hc1)
  clear hc1
  go_wp2_with fail
  refine (HAW.out _ (env_below HE.out HC1.out)).mono ?_
  rintro e z2 ⟨rfl, hc2⟩
  have HC2 := Lib.hid (below_then HC1.out hc2)
  clear hc2
  go_wp2_with fail
  go_ret
  exact ⟨rfl, HC2.out⟩

set_option maxHeartbeats 2000000 in
theorem uparts_1111c (p : Int) (hp : 65535 < p ∧ p ≤ 70000) (w : World) (hE : Env11 w) :
    Calls Tryz.prog 8 #[.int .i64 p, .bool true, .bool true, .bool true, .bool true] w fun e w' => e = .returned (.bool true) ∧ Below w.heap.size w w' := by
  have HE := Lib.hid hE
  have HAW := Lib.hid (fun W (hW : Env11 W) => uawake_any W hW)
  have HDC := Lib.hid (fun W => udecimal_any p (by omega) W)
  have hml := Lib.itoa_length_le p (by omega) (by omega)
  obtain ⟨I, hI⟩ : ∃ I : ByteArray, I = ⟨(Lib.itoa p).toArray⟩ := ⟨_, rfl⟩
  have hIs : I.size ≤ 21 := by rw [hI, mk_size]; omega
  have hIl : I.data.toList = Lib.itoa p := by rw [hI]
  rw [← hI] at HDC
  have s0 := part_small ((⟨#[104, 116, 116, 112, 115]⟩ : ByteArray) ++ (⟨#[58, 47, 47]⟩ : ByteArray)) (by simp <;> omega)
  have s1 := part_small (((⟨#[104, 116, 116, 112, 115]⟩ : ByteArray) ++ (⟨#[58, 47, 47]⟩ : ByteArray)) ++ (⟨#[117, 58, 112, 64]⟩ : ByteArray)) (by simp <;> omega)
  have s2 := part_small ((((⟨#[104, 116, 116, 112, 115]⟩ : ByteArray) ++ (⟨#[58, 47, 47]⟩ : ByteArray)) ++ (⟨#[117, 58, 112, 64]⟩ : ByteArray)) ++ (⟨#[104, 46, 120, 58, 48, 48]⟩ : ByteArray)) (by simp <;> omega)
  have s3 := part_small (((((⟨#[104, 116, 116, 112, 115]⟩ : ByteArray) ++ (⟨#[58, 47, 47]⟩ : ByteArray)) ++ (⟨#[117, 58, 112, 64]⟩ : ByteArray)) ++ (⟨#[104, 46, 120, 58, 48, 48]⟩ : ByteArray)) ++ I) (by simp [hIl] <;> omega)
  have s4 := part_small ((((((⟨#[104, 116, 116, 112, 115]⟩ : ByteArray) ++ (⟨#[58, 47, 47]⟩ : ByteArray)) ++ (⟨#[117, 58, 112, 64]⟩ : ByteArray)) ++ (⟨#[104, 46, 120, 58, 48, 48]⟩ : ByteArray)) ++ I) ++ (⟨#[47, 97]⟩ : ByteArray)) (by simp [hIl] <;> omega)
  have s5 := part_small (((((((⟨#[104, 116, 116, 112, 115]⟩ : ByteArray) ++ (⟨#[58, 47, 47]⟩ : ByteArray)) ++ (⟨#[117, 58, 112, 64]⟩ : ByteArray)) ++ (⟨#[104, 46, 120, 58, 48, 48]⟩ : ByteArray)) ++ I) ++ (⟨#[47, 97]⟩ : ByteArray)) ++ (⟨#[63, 113]⟩ : ByteArray)) (by simp [hIl] <;> omega)
  have s6 := part_small ((((((((⟨#[104, 116, 116, 112, 115]⟩ : ByteArray) ++ (⟨#[58, 47, 47]⟩ : ByteArray)) ++ (⟨#[117, 58, 112, 64]⟩ : ByteArray)) ++ (⟨#[104, 46, 120, 58, 48, 48]⟩ : ByteArray)) ++ I) ++ (⟨#[47, 97]⟩ : ByteArray)) ++ (⟨#[63, 113]⟩ : ByteArray)) ++ (⟨#[35, 102]⟩ : ByteArray)) (by simp [hIl] <;> omega)
  have HX : Hid (((((((((⟨#[104, 116, 116, 112, 115]⟩ : ByteArray) ++ (⟨#[58, 47, 47]⟩ : ByteArray)) ++ (⟨#[117, 58, 112, 64]⟩ : ByteArray)) ++ (⟨#[104, 46, 120, 58, 48, 48]⟩ : ByteArray)) ++ I) ++ (⟨#[47, 97]⟩ : ByteArray)) ++ (⟨#[63, 113]⟩ : ByteArray)) ++ (⟨#[35, 102]⟩ : ByteArray)).data.toList = partsT true true true true p) := Lib.hid (by simp [hIl, partsT, httpsL])
  have HP : Hid (∀ W, Env11 W → Calls Tryz.prog 10 #[.string ((((((((⟨#[104, 116, 116, 112, 115]⟩ : ByteArray) ++ (⟨#[58, 47, 47]⟩ : ByteArray)) ++ (⟨#[117, 58, 112, 64]⟩ : ByteArray)) ++ (⟨#[104, 46, 120, 58, 48, 48]⟩ : ByteArray)) ++ I) ++ (⟨#[47, 97]⟩ : ByteArray)) ++ (⟨#[63, 113]⟩ : ByteArray)) ++ (⟨#[35, 102]⟩ : ByteArray))] W fun e w' => e = .returned (.tuple #[.agg #[.string ⟨#[]⟩, .string ⟨#[]⟩, .string ⟨#[]⟩, .string ⟨#[]⟩, .int .i64 0, .string ⟨#[]⟩, .bool false, .string ⟨#[]⟩, .bool false, .string ⟨#[]⟩], .int .i64 8]) ∧ Below W.heap.size W w') := Lib.hid (by
    intro W hW
    have := uparse_any ((((((((⟨#[104, 116, 116, 112, 115]⟩ : ByteArray) ++ (⟨#[58, 47, 47]⟩ : ByteArray)) ++ (⟨#[117, 58, 112, 64]⟩ : ByteArray)) ++ (⟨#[104, 46, 120, 58, 48, 48]⟩ : ByteArray)) ++ I) ++ (⟨#[47, 97]⟩ : ByteArray)) ++ (⟨#[63, 113]⟩ : ByteArray)) ++ (⟨#[35, 102]⟩ : ByteArray)) (by omega) W hW
    rw [HX.out, parts_url true true true true p (by omega), if_neg (by omega)] at this
    exact this)
  clear hI hIl hml hE
  go_enter Tryz.func8, Tryz.ntmps8
  go_wp2_with fail
  refine (HDC.out _).mono ?_
  rintro e w1 ⟨rfl, hb1⟩
  have HB1 := Lib.hid hb1
  clear hb1
  go_wp2_with fail
  refine (HP.out _ (env_below HE.out HB1.out)).mono ?_
  rintro e w2 ⟨rfl, hb2⟩
  have HB2 := Lib.hid (below_more (below_then HB1.out hb2) (.cells #[.string ⟨#[]⟩, .string ⟨#[]⟩, .string ⟨#[]⟩, .string ⟨#[]⟩, .int .i64 0, .string ⟨#[]⟩, .bool false, .string ⟨#[]⟩, .bool false, .string ⟨#[]⟩] 24))
  clear hb2
  go_wp2_with fail
  refine (HAW.out _ (env_below HE.out HB2.out)).mono ?_
  rintro e w3 ⟨rfl, hb3⟩
  have HB3 := Lib.hid (below_then HB2.out hb3)
  clear hb3
  go_wp2_with fail
  go_ret
  exact ⟨rfl, HB3.out⟩

end Go.Proofs.YtlhdafinfgdlkaaGreatDoor
