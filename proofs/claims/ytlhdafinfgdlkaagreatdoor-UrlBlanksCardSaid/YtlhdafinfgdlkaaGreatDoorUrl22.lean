/- UrlBlanks: its walk. -/
import Derived.Test.YtlhdafinfgdlkaaGreatDoorProg
import Derived.Test.YtlhdafinfgdlkaaGreatDoorKit
import Derived.Test.YtlhdafinfgdlkaaGreatDoorRow
import Derived.Test.YtlhdafinfgdlkaaGreatDoorRow2
import Derived.Test.YtlhdafinfgdlkaaGreatDoorFrm11
import Derived.Test.YtlhdafinfgdlkaaGreatDoorPct7
import Derived.Test.YtlhdafinfgdlkaaGreatDoorHst6
import Derived.Test.YtlhdafinfgdlkaaGreatDoorUrl0
import Derived.Test.YtlhdafinfgdlkaaGreatDoorUrl6
import Derived.Test.YtlhdafinfgdlkaaGreatDoorUrl9
import Derived.Test.YtlhdafinfgdlkaaGreatDoorUrl12
import Derived.Test.YtlhdafinfgdlkaaGreatDoorUrl15
import Derived.Test.YtlhdafinfgdlkaaGreatDoorUrl19
namespace Go.Proofs.YtlhdafinfgdlkaaGreatDoor
open Go.RowKit Go.Proofs
set_option maxRecDepth 100000

set_option maxHeartbeats 2000000 in
theorem urlBlanks_any (s : ByteArray) (hs : s.size ≤ 140737488351232) (k : Int) (hk : -9223372036854775808 ≤ k ∧ k ≤ 9223372036854775807) (wh : Int) (hwh : -9223372036854775808 ≤ wh ∧ wh ≤ 9223372036854775807) (w : World) (hE : Env11 w) :
    Calls Tryz.prog 6 #[.string s, .int .i64 k, .int .i64 wh] w fun e w' => e = .returned (.bool true) ∧ Below w.heap.size w w' := by
  have HE := Lib.hid hE
  have HAW := Lib.hid (fun W (hW : Env11 W) => uawake_any W hW)
  by_cases hbig : 3000 < s.size
  · have hbz : (3000 : Int) < (s.size : Int) := by omega
    clear hbig hE
    go_enter Tryz.func6, Tryz.ntmps6
    go_wp2_with fail
    refine (HAW.out _ HE.out).mono ?_
    rintro e w1 ⟨rfl, hb1⟩
    have HB1 := Lib.hid hb1
    clear hb1
    go_wp2_with fail
    go_ret
    exact ⟨rfl, HB1.out⟩
  have hbz : ¬ (3000 : Int) < (s.size : Int) := by omega
  have hs2 : s.size ≤ 3000 := by omega
  have hsz : (s.size : Int) ≤ 3000 := by omega
  obtain ⟨o, ho⟩ : ∃ o, o = urlP s.data.toList := ⟨_, rfl⟩
  have HO := Lib.hid ho
  obtain ⟨u, hu⟩ : ∃ u, u = o.getD urlZ := ⟨_, rfl⟩
  obtain ⟨n, hn⟩ : ∃ n, n = urlE o := ⟨_, rfl⟩
  have HPO : Hid (∀ t : ByteArray, t.size ≤ 4000 → urlP t.data.toList = o → ∀ W, Env11 W → Calls Tryz.prog 10 #[.string t] W fun e w' => e = .returned (parsedV u n) ∧ Below W.heap.size W w') := Lib.hid (by
    intro t ht h W hW
    have := uparse_any t (by omega) W hW
    rw [h] at this
    rw [hu, hn]
    exact this)
  clear hu hn
  obtain ⟨pt, xpt⟩ : ∃ y, y = u.prt := ⟨_, rfl⟩
  obtain ⟨hq, xhq⟩ : ∃ y, y = u.hq := ⟨_, rfl⟩
  obtain ⟨hf, xhf⟩ : ∃ y, y = u.hf := ⟨_, rfl⟩
  obtain ⟨S, xS⟩ : ∃ y : ByteArray, y = ⟨u.sch.toArray⟩ := ⟨_, rfl⟩
  obtain ⟨U, xU⟩ : ∃ y : ByteArray, y = ⟨u.usr.toArray⟩ := ⟨_, rfl⟩
  obtain ⟨P, xP⟩ : ∃ y : ByteArray, y = ⟨u.pas.toArray⟩ := ⟨_, rfl⟩
  obtain ⟨H, xH⟩ : ∃ y : ByteArray, y = ⟨u.hos.toArray⟩ := ⟨_, rfl⟩
  obtain ⟨T, xT⟩ : ∃ y : ByteArray, y = ⟨u.pth.toArray⟩ := ⟨_, rfl⟩
  obtain ⟨Q, xQ⟩ : ∃ y : ByteArray, y = ⟨u.qry.toArray⟩ := ⟨_, rfl⟩
  obtain ⟨F, xF⟩ : ∃ y : ByteArray, y = ⟨u.frg.toArray⟩ := ⟨_, rfl⟩
  unfold parsedV at HPO
  rw [← xS, ← xU, ← xP, ← xH, ← xT, ← xQ, ← xF, ← xpt, ← xhq, ← xhf] at HPO
  clear xS xU xP xH xT xQ xF xpt xhq xhf
  have HP1 : Hid (∀ W, Env11 W → Calls Tryz.prog 10 #[.string s] W fun e w' => e = .returned (.tuple #[.agg #[.string S, .string U, .string P, .string H, .int .i64 pt, .string T, .bool hq, .string Q, .bool hf, .string F], .int .i64 n]) ∧ Below W.heap.size W w') := Lib.hid (HPO.out s (by omega) ho.symm)
  have s3 : ((⟨#[32, 1]⟩ : ByteArray) ++ s ++ (⟨#[9, 32]⟩ : ByteArray)).size ≤ 3100 := by
    rw [ByteArray.size_append, ByteArray.size_append]
    have a1 : (⟨#[32, 1]⟩ : ByteArray).size = 2 := rfl
    have a2 : (⟨#[9, 32]⟩ : ByteArray).size = 2 := rfl
    omega
  have s4 : ((⟨#[32, 1]⟩ : ByteArray) ++ s).size ≤ 3100 := by
    rw [ByteArray.size_append]
    have a1 : (⟨#[32, 1]⟩ : ByteArray).size = 2 := rfl
    omega
  have HP3 : Hid (∀ W, Env11 W → Calls Tryz.prog 10 #[.string ((⟨#[32, 1]⟩ : ByteArray) ++ s ++ (⟨#[9, 32]⟩ : ByteArray))] W fun e w' => e = .returned (.tuple #[.agg #[.string S, .string U, .string P, .string H, .int .i64 pt, .string T, .bool hq, .string Q, .bool hf, .string F], .int .i64 n]) ∧ Below W.heap.size W w') := Lib.hid (HPO.out _ (by omega) (by
    rw [mk_app, mk_app, List.append_assoc]
    have := url_around s.data.toList (by rw [size_data]; omega)
    rw [← ho] at this
    exact this))
  have HRK : Hid (∀ W, Calls Tryz.prog 19 #[.int .i64 k, .int .i64 ((s.size : Int) + 1)] W fun e w' => (∃ r : Nat, r < s.size + 1 ∧ e = .returned (.int .i64 r)) ∧ W = w') := Lib.hid (fun W => by
    have := round_any k (s.size + 1) W hk (by omega)
    rw [Int.natCast_add] at this
    exact this)
  have HRW := Lib.hid (fun W => round_any wh 3 W hwh (by decide))
  clear ho hE hbig hk hwh
  go_enter Tryz.func6, Tryz.ntmps6
  go_wp2_with fail
  refine (HP1.out _ HE.out).mono ?_
  rintro e w1 ⟨rfl, hb1⟩
  have HB1 := Lib.hid (below_more hb1 (.cells #[.string S, .string U, .string P, .string H, .int .i64 pt, .string T, .bool hq, .string Q, .bool hf, .string F] 24))
  have HR1 := Lib.hid (Rw.alloc (base := 0) w1 24 #[.string S, .string U, .string P, .string H, .int .i64 pt, .string T, .bool hq, .string Q, .bool hf, .string F] (Nat.zero_le _))
  clear hb1
  go_wp2_with fail
  refine (HRK.out _).mono ?_
  rintro e w2 ⟨⟨r, hr, rfl⟩, hw2⟩
  rw [hw2] at HB1 HR1
  clear hw2
  have hr0 : (0 : Int) ≤ (r : Int) := by omega
  have hr2 : (r : Int) ≤ (s.size : Int) := by omega
  have HB2 := Lib.hid (below_more HB1.out (.cells #[.int .u8 9, .int .u8 10, .int .u8 13] 5))
  have HS2 := Lib.hid (Rw.more HR1.out (.cells #[.int .u8 9, .int .u8 10, .int .u8 13] 5))
  have HC2 := Lib.hid (Rw.alloc (base := 0) w2 5 #[.int .u8 9, .int .u8 10, .int .u8 13] (Nat.zero_le _))
  go_wp2_with fail
  refine (HRW.out _).mono ?_
  rintro e w3 ⟨⟨q, hqq, rfl⟩, hw3⟩
  rw [hw3] at HB2 HS2 HC2
  clear hw3
  have hq0 : (0 : Int) ≤ (q : Int) := by omega
  have hq3 : (q : Int) < 3 := by omega
  obtain ⟨c, hcv, hcb⟩ : ∃ c : UInt8, [Value.int .u8 9, .int .u8 10, .int .u8 13][q]? = some (.int .u8 (c.toNat : Int)) ∧ brkC c = true := by
    match q, hqq with
    | 0, _ => exact ⟨9, rfl, by decide⟩
    | 1, _ => exact ⟨10, rfl, by decide⟩
    | 2, _ => exact ⟨13, rfl, by decide⟩
  have hcell : w3.cell? ⟨w2.heap.size, q, none⟩ = some (.int .u8 (c.toNat : Int)) := Rw.cell HC2.out (j := q) hcv
  have kc := uconv_one c w3 (w3.alloc (.cells #[.int .u8 c.toNat] 5)) (Below.refl _ _)
  have HB4 := Lib.hid (below_more HB2.out (.cells #[.int .u8 c.toNat] 5))
  have HS4 := Lib.hid (Rw.more HS2.out (.cells #[.int .u8 c.toNat] 5))
  have HB5 := Lib.hid (below_more HB4.out (.cells #[.string ⟨#[]⟩, .string ⟨#[]⟩, .string ⟨#[]⟩, .string ⟨#[]⟩, .int .i64 0, .string ⟨#[]⟩, .bool false, .string ⟨#[]⟩, .bool false, .string ⟨#[]⟩] 24))
  have HS5 := Lib.hid (Rw.more HS4.out (.cells #[.string ⟨#[]⟩, .string ⟨#[]⟩, .string ⟨#[]⟩, .string ⟨#[]⟩, .int .i64 0, .string ⟨#[]⟩, .bool false, .string ⟨#[]⟩, .bool false, .string ⟨#[]⟩] 24))
  have HZ5 := Lib.hid (Rw.alloc (base := 0) (w3.alloc (.cells #[.int .u8 c.toNat] 5)) 24 #[.string ⟨#[]⟩, .string ⟨#[]⟩, .string ⟨#[]⟩, .string ⟨#[]⟩, .int .i64 0, .string ⟨#[]⟩, .bool false, .string ⟨#[]⟩, .bool false, .string ⟨#[]⟩] (Nat.zero_le _))
  have hh : (w3.alloc (.cells #[.int .u8 c.toNat] 5)).heap.size = w3.heap.size + 1 := by simp
  rw [hh] at HZ5
  clear hh
  have hSA : (s.extract 0 r).size ≤ 3000 := by rw [ByteArray.size_extract]; omega
  have hSB : (s.extract r s.size).size ≤ 3000 := by rw [ByteArray.size_extract]; omega
  obtain ⟨A, hA⟩ : ∃ A, s.extract 0 r = A := ⟨_, rfl⟩
  obtain ⟨B, hB⟩ : ∃ B, s.extract r s.size = B := ⟨_, rfl⟩
  have HAl : Hid (A.data.toList = s.data.toList.take r) := Lib.hid (by rw [← hA, extract_list]; simp)
  have HBl : Hid (B.data.toList = s.data.toList.drop r) := Lib.hid (by rw [← hB, extract_tail])
  rw [hA] at hSA
  rw [hB] at hSB
  have s5 : (A ++ (⟨#[c]⟩ : ByteArray)).size ≤ 3001 := by rw [ByteArray.size_append]; have a1 : (⟨#[c]⟩ : ByteArray).size = 1 := rfl; omega
  have s6 : (A ++ (⟨#[c]⟩ : ByteArray) ++ B).size ≤ 3001 := by
    rw [ByteArray.size_append]
    have a1 : A.size = r := by rw [← hA, ByteArray.size_extract]; omega
    have a2 : B.size = s.size - r := by rw [← hB, ByteArray.size_extract]; omega
    have a3 : (A ++ (⟨#[c]⟩ : ByteArray)).size = A.size + 1 := by rw [ByteArray.size_append]; rfl
    omega
  have HU8 := Lib.hid (fun W => ref_utf8_any A (by omega) W)
  obtain ⟨vd, hvd⟩ : ∃ vd, vd = Lib.validD A.data.toList := ⟨_, rfl⟩
  have HVD := Lib.hid hvd
  rw [← hvd] at HU8
  have HCB := Lib.hid hcb
  clear hvd hcv hcb HC2
  cases vd
  · obtain ⟨o2, ho2⟩ : ∃ o2, o2 = urlP (A ++ (⟨#[c]⟩ : ByteArray) ++ B).data.toList := ⟨_, rfl⟩
    have HP2 := (fun W (hW : Env11 W) => uparse_any (A ++ (⟨#[c]⟩ : ByteArray) ++ B) (by omega) W hW)
    rw [← ho2] at HP2
    have HP2 : Hid (∀ W, Env11 W → Calls Tryz.prog 10 #[.string (A ++ (⟨#[c]⟩ : ByteArray) ++ B)] W fun e w' => e = .returned (parsedV (o2.getD urlZ) (urlE o2)) ∧ Below W.heap.size W w') := Lib.hid HP2
    clear ho2
    obtain ⟨u2, hu2⟩ : ∃ u2, u2 = o2.getD urlZ := ⟨_, rfl⟩
    obtain ⟨n2, hn2⟩ : ∃ n2, n2 = urlE o2 := ⟨_, rfl⟩
    rw [← hu2, ← hn2] at HP2
    clear hu2 hn2
    obtain ⟨pt2, xpt2⟩ : ∃ y, y = u2.prt := ⟨_, rfl⟩
    obtain ⟨hq2, xhq2⟩ : ∃ y, y = u2.hq := ⟨_, rfl⟩
    obtain ⟨hf2, xhf2⟩ : ∃ y, y = u2.hf := ⟨_, rfl⟩
    obtain ⟨S2, xS2⟩ : ∃ y : ByteArray, y = ⟨u2.sch.toArray⟩ := ⟨_, rfl⟩
    obtain ⟨U2, xU2⟩ : ∃ y : ByteArray, y = ⟨u2.usr.toArray⟩ := ⟨_, rfl⟩
    obtain ⟨P2, xP2⟩ : ∃ y : ByteArray, y = ⟨u2.pas.toArray⟩ := ⟨_, rfl⟩
    obtain ⟨H2, xH2⟩ : ∃ y : ByteArray, y = ⟨u2.hos.toArray⟩ := ⟨_, rfl⟩
    obtain ⟨T2, xT2⟩ : ∃ y : ByteArray, y = ⟨u2.pth.toArray⟩ := ⟨_, rfl⟩
    obtain ⟨Q2, xQ2⟩ : ∃ y : ByteArray, y = ⟨u2.qry.toArray⟩ := ⟨_, rfl⟩
    obtain ⟨F2, xF2⟩ : ∃ y : ByteArray, y = ⟨u2.frg.toArray⟩ := ⟨_, rfl⟩
    unfold parsedV at HP2
    rw [← xS2, ← xU2, ← xP2, ← xH2, ← xT2, ← xQ2, ← xF2, ← xpt2, ← xhq2, ← xhf2] at HP2
    clear xS2 xU2 xP2 xH2 xT2 xQ2 xF2 xpt2 xhq2 xhf2
    have HQ2 : Hid (∀ W, Env11 W → Calls Tryz.prog 10 #[.string (A ++ (⟨#[c]⟩ : ByteArray) ++ B)] W fun e w' => e = .returned (.tuple #[.agg #[.string S2, .string U2, .string P2, .string H2, .int .i64 pt2, .string T2, .bool hq2, .string Q2, .bool hf2, .string F2], .int .i64 n2]) ∧ Below W.heap.size W w') := HP2
    clear HP2
    go_wp2_with fail
    go_region_with (first | (go_at_call 10; refine (HQ2.out _ (env_below HE.out (below_draws HB5.out ⟨1, rfl⟩))).mono ?_; rintro e w5 ⟨rfl, hb5⟩; have hz5 := Rw.below (Rw.drew HZ5.out ⟨1, rfl⟩) hb5; have c0 := Rw.cell hz5 (j := 0) rfl; have f0 := Rw.free hz5 0; have c1 := Rw.cell hz5 (j := 1) rfl; have f1 := Rw.free hz5 1; have c2 := Rw.cell hz5 (j := 2) rfl; have f2 := Rw.free hz5 2; have c3 := Rw.cell hz5 (j := 3) rfl; have f3 := Rw.free hz5 3; have c4 := Rw.cell hz5 (j := 4) rfl; have f4 := Rw.free hz5 4; have c5 := Rw.cell hz5 (j := 5) rfl; have f5 := Rw.free hz5 5; have c6 := Rw.cell hz5 (j := 6) rfl; have f6 := Rw.free hz5 6; have c7 := Rw.cell hz5 (j := 7) rfl; have f7 := Rw.free hz5 7; have c8 := Rw.cell hz5 (j := 8) rfl; have f8 := Rw.free hz5 8; have c9 := Rw.cell hz5 (j := 9) rfl; have f9 := Rw.free hz5 9) | (go_at_call 10; refine (HQ2.out _ (env_below HE.out (below_draws HB4.out ⟨1, rfl⟩))).mono ?_; rintro e w5 ⟨rfl, hb5⟩))
    · have HB6 := Lib.hid (below_more (below_then (below_draws HB4.out ⟨1, rfl⟩) hb5) (.cells #[.string S2, .string U2, .string P2, .string H2, .int .i64 pt2, .string T2, .bool hq2, .string Q2, .bool hf2, .string F2] 24))
      have HS6 := Lib.hid (Rw.more (Rw.below (Rw.drew HS4.out ⟨1, rfl⟩) hb5) (.cells #[.string S2, .string U2, .string P2, .string H2, .int .i64 pt2, .string T2, .bool hq2, .string Q2, .bool hf2, .string F2] 24))
      have HM6 := Lib.hid (Rw.alloc (base := 0) w5 24 #[.string S2, .string U2, .string P2, .string H2, .int .i64 pt2, .string T2, .bool hq2, .string Q2, .bool hf2, .string F2] (Nat.zero_le _))
      clear hb5
      go_wp2_with fail
      refine (HP3.out _ (env_below HE.out HB6.out)).mono ?_
      rintro e w7 ⟨rfl, hb7⟩
      have HB8 := Lib.hid (below_more (below_then HB6.out hb7) (.cells #[.string S, .string U, .string P, .string H, .int .i64 pt, .string T, .bool hq, .string Q, .bool hf, .string F] 24))
      have HS8 := Lib.hid (Rw.more (Rw.below HS6.out hb7) (.cells #[.string S, .string U, .string P, .string H, .int .i64 pt, .string T, .bool hq, .string Q, .bool hf, .string F] 24))
      have HM8 := Lib.hid (Rw.more (Rw.below HM6.out hb7) (.cells #[.string S, .string U, .string P, .string H, .int .i64 pt, .string T, .bool hq, .string Q, .bool hf, .string F] 24))
      have HN8 := Lib.hid (Rw.alloc (base := 0) w7 24 #[.string S, .string U, .string P, .string H, .int .i64 pt, .string T, .bool hq, .string Q, .bool hf, .string F] (Nat.zero_le _))
      clear hb7
      go_wp2_with fail
      refine (HU8.out _).mono ?_
      rintro e w8 ⟨rfl, hw8⟩
      rw [← hw8] at HB8 HS8 HM8 HN8
      clear hw8
      have ka0 := Rw.cell HS8.out (j := 0) rfl
      have ka1 := Rw.cell HS8.out (j := 1) rfl
      have ka2 := Rw.cell HS8.out (j := 2) rfl
      have ka3 := Rw.cell HS8.out (j := 3) rfl
      have ka4 := Rw.cell HS8.out (j := 4) rfl
      have ka5 := Rw.cell HS8.out (j := 5) rfl
      have ka6 := Rw.cell HS8.out (j := 6) rfl
      have ka7 := Rw.cell HS8.out (j := 7) rfl
      have ka8 := Rw.cell HS8.out (j := 8) rfl
      have ka9 := Rw.cell HS8.out (j := 9) rfl
      have kb0 := Rw.cell HM8.out (j := 0) rfl
      have kb1 := Rw.cell HM8.out (j := 1) rfl
      have kb2 := Rw.cell HM8.out (j := 2) rfl
      have kb3 := Rw.cell HM8.out (j := 3) rfl
      have kb4 := Rw.cell HM8.out (j := 4) rfl
      have kb5 := Rw.cell HM8.out (j := 5) rfl
      have kb6 := Rw.cell HM8.out (j := 6) rfl
      have kb7 := Rw.cell HM8.out (j := 7) rfl
      have kb8 := Rw.cell HM8.out (j := 8) rfl
      have kb9 := Rw.cell HM8.out (j := 9) rfl
      have kc0 := Rw.cell HN8.out (j := 0) rfl
      have kc1 := Rw.cell HN8.out (j := 1) rfl
      have kc2 := Rw.cell HN8.out (j := 2) rfl
      have kc3 := Rw.cell HN8.out (j := 3) rfl
      have kc4 := Rw.cell HN8.out (j := 4) rfl
      have kc5 := Rw.cell HN8.out (j := 5) rfl
      have kc6 := Rw.cell HN8.out (j := 6) rfl
      have kc7 := Rw.cell HN8.out (j := 7) rfl
      have kc8 := Rw.cell HN8.out (j := 8) rfl
      have kc9 := Rw.cell HN8.out (j := 9) rfl
      go_wp2_with fail
      refine (HAW.out _ (env_below HE.out HB8.out)).mono ?_
      rintro e w9 ⟨rfl, hb9⟩
      have HB9 := Lib.hid (below_then HB8.out hb9)
      clear hb9
      go_wp2_with fail
      go_ret
      exact ⟨rfl, HB9.out⟩
    all_goals
      have hgl : w.heap.size ≤ w3.heap.size + 1 := Nat.le_succ_of_le HB2.out.size
      have hgn : w3.heap.size + 1 ≠ w1.heap.size := by have := Rw.size HS2.out; omega
      have HB6 : Hid (Below w.heap.size w ((((((((((w5.setCell ⟨w3.heap.size + 1, 0, none⟩ (.string S2)).setCell ⟨w3.heap.size + 1, 1, none⟩ (.string U2)).setCell ⟨w3.heap.size + 1, 2, none⟩ (.string P2)).setCell ⟨w3.heap.size + 1, 3, none⟩ (.string H2)).setCell ⟨w3.heap.size + 1, 4, none⟩ (.int .i64 pt2)).setCell ⟨w3.heap.size + 1, 5, none⟩ (.string T2)).setCell ⟨w3.heap.size + 1, 6, none⟩ (.bool hq2)).setCell ⟨w3.heap.size + 1, 7, none⟩ (.string Q2)).setCell ⟨w3.heap.size + 1, 8, none⟩ (.bool hf2)).setCell ⟨w3.heap.size + 1, 9, none⟩ (.string F2))) := Lib.hid (below_setCells hgl [.string S2, .string U2, .string P2, .string H2, .int .i64 pt2, .string T2, .bool hq2, .string Q2, .bool hf2, .string F2] 0 w5 (below_then (below_draws HB5.out ⟨1, rfl⟩) hb5))
      have HS6 : Hid (Rw ((((((((((w5.setCell ⟨w3.heap.size + 1, 0, none⟩ (.string S2)).setCell ⟨w3.heap.size + 1, 1, none⟩ (.string U2)).setCell ⟨w3.heap.size + 1, 2, none⟩ (.string P2)).setCell ⟨w3.heap.size + 1, 3, none⟩ (.string H2)).setCell ⟨w3.heap.size + 1, 4, none⟩ (.int .i64 pt2)).setCell ⟨w3.heap.size + 1, 5, none⟩ (.string T2)).setCell ⟨w3.heap.size + 1, 6, none⟩ (.bool hq2)).setCell ⟨w3.heap.size + 1, 7, none⟩ (.string Q2)).setCell ⟨w3.heap.size + 1, 8, none⟩ (.bool hf2)).setCell ⟨w3.heap.size + 1, 9, none⟩ (.string F2)) 0 w1.heap.size 24 [.string S, .string U, .string P, .string H, .int .i64 pt, .string T, .bool hq, .string Q, .bool hf, .string F]) := Lib.hid (Rw.otherAll (Rw.below (Rw.drew HS5.out ⟨1, rfl⟩) hb5) hgn 0 [.string S2, .string U2, .string P2, .string H2, .int .i64 pt2, .string T2, .bool hq2, .string Q2, .bool hf2, .string F2])
      have HM6 : Hid (Rw ((((((((((w5.setCell ⟨w3.heap.size + 1, 0, none⟩ (.string S2)).setCell ⟨w3.heap.size + 1, 1, none⟩ (.string U2)).setCell ⟨w3.heap.size + 1, 2, none⟩ (.string P2)).setCell ⟨w3.heap.size + 1, 3, none⟩ (.string H2)).setCell ⟨w3.heap.size + 1, 4, none⟩ (.int .i64 pt2)).setCell ⟨w3.heap.size + 1, 5, none⟩ (.string T2)).setCell ⟨w3.heap.size + 1, 6, none⟩ (.bool hq2)).setCell ⟨w3.heap.size + 1, 7, none⟩ (.string Q2)).setCell ⟨w3.heap.size + 1, 8, none⟩ (.bool hf2)).setCell ⟨w3.heap.size + 1, 9, none⟩ (.string F2)) 0 (w3.heap.size + 1) 24 [.string S2, .string U2, .string P2, .string H2, .int .i64 pt2, .string T2, .bool hq2, .string Q2, .bool hf2, .string F2]) := Lib.hid (Rw.storedAll hz5 [.string S2, .string U2, .string P2, .string H2, .int .i64 pt2, .string T2, .bool hq2, .string Q2, .bool hf2, .string F2] rfl)
      clear hb5 hz5 c0 f0 c1 f1 c2 f2 c3 f3 c4 f4 c5 f5 c6 f6 c7 f7 c8 f8 c9 f9
      go_wp2_with fail
      refine (HP3.out _ (env_below HE.out HB6.out)).mono ?_
      rintro e w7 ⟨rfl, hb7⟩
      have HB8 := Lib.hid (below_more (below_then HB6.out hb7) (.cells #[.string S, .string U, .string P, .string H, .int .i64 pt, .string T, .bool hq, .string Q, .bool hf, .string F] 24))
      have HS8 := Lib.hid (Rw.more (Rw.below HS6.out hb7) (.cells #[.string S, .string U, .string P, .string H, .int .i64 pt, .string T, .bool hq, .string Q, .bool hf, .string F] 24))
      have HM8 := Lib.hid (Rw.more (Rw.below HM6.out hb7) (.cells #[.string S, .string U, .string P, .string H, .int .i64 pt, .string T, .bool hq, .string Q, .bool hf, .string F] 24))
      have HN8 := Lib.hid (Rw.alloc (base := 0) w7 24 #[.string S, .string U, .string P, .string H, .int .i64 pt, .string T, .bool hq, .string Q, .bool hf, .string F] (Nat.zero_le _))
      clear hb7
      go_wp2_with fail
      refine (HU8.out _).mono ?_
      rintro e w8 ⟨rfl, hw8⟩
      rw [← hw8] at HB8 HS8 HM8 HN8
      clear hw8
      have ka0 := Rw.cell HS8.out (j := 0) rfl
      have ka1 := Rw.cell HS8.out (j := 1) rfl
      have ka2 := Rw.cell HS8.out (j := 2) rfl
      have ka3 := Rw.cell HS8.out (j := 3) rfl
      have ka4 := Rw.cell HS8.out (j := 4) rfl
      have ka5 := Rw.cell HS8.out (j := 5) rfl
      have ka6 := Rw.cell HS8.out (j := 6) rfl
      have ka7 := Rw.cell HS8.out (j := 7) rfl
      have ka8 := Rw.cell HS8.out (j := 8) rfl
      have ka9 := Rw.cell HS8.out (j := 9) rfl
      have kb0 := Rw.cell HM8.out (j := 0) rfl
      have kb1 := Rw.cell HM8.out (j := 1) rfl
      have kb2 := Rw.cell HM8.out (j := 2) rfl
      have kb3 := Rw.cell HM8.out (j := 3) rfl
      have kb4 := Rw.cell HM8.out (j := 4) rfl
      have kb5 := Rw.cell HM8.out (j := 5) rfl
      have kb6 := Rw.cell HM8.out (j := 6) rfl
      have kb7 := Rw.cell HM8.out (j := 7) rfl
      have kb8 := Rw.cell HM8.out (j := 8) rfl
      have kb9 := Rw.cell HM8.out (j := 9) rfl
      have kc0 := Rw.cell HN8.out (j := 0) rfl
      have kc1 := Rw.cell HN8.out (j := 1) rfl
      have kc2 := Rw.cell HN8.out (j := 2) rfl
      have kc3 := Rw.cell HN8.out (j := 3) rfl
      have kc4 := Rw.cell HN8.out (j := 4) rfl
      have kc5 := Rw.cell HN8.out (j := 5) rfl
      have kc6 := Rw.cell HN8.out (j := 6) rfl
      have kc7 := Rw.cell HN8.out (j := 7) rfl
      have kc8 := Rw.cell HN8.out (j := 8) rfl
      have kc9 := Rw.cell HN8.out (j := 9) rfl
      go_wp2_with fail
      refine (HAW.out _ (env_below HE.out HB8.out)).mono ?_
      rintro e w9 ⟨rfl, hb9⟩
      have HB9 := Lib.hid (below_then HB8.out hb9)
      clear hb9
      go_wp2_with fail
      go_ret
      exact ⟨rfl, HB9.out⟩
  · have HP2 : Hid (∀ W, Env11 W → Calls Tryz.prog 10 #[.string (A ++ (⟨#[c]⟩ : ByteArray) ++ B)] W fun e w' => e = .returned (.tuple #[.agg #[.string S, .string U, .string P, .string H, .int .i64 pt, .string T, .bool hq, .string Q, .bool hf, .string F], .int .i64 n]) ∧ Below W.heap.size W w') := Lib.hid (HPO.out (A ++ (⟨#[c]⟩ : ByteArray) ++ B) (by omega) (by
      rw [mk_app, mk_app, HAl.out, HBl.out, List.append_assoc]
      have := url_insert HCB.out (s.data.toList.take r) (s.data.toList.drop r) (by rw [List.take_append_drop, size_data]; omega) (by rw [← HAl.out]; exact HVD.out.symm)
      rw [List.take_append_drop, ← HO.out] at this
      exact this))
    have HQ2 : Hid (∀ W, Env11 W → Calls Tryz.prog 10 #[.string (A ++ (⟨#[c]⟩ : ByteArray) ++ B)] W fun e w' => e = .returned (.tuple #[.agg #[.string S, .string U, .string P, .string H, .int .i64 pt, .string T, .bool hq, .string Q, .bool hf, .string F], .int .i64 n]) ∧ Below W.heap.size W w') := HP2
    clear HP2
    go_wp2_with fail
    go_region_with (first | (go_at_call 10; refine (HQ2.out _ (env_below HE.out (below_draws HB5.out ⟨1, rfl⟩))).mono ?_; rintro e w5 ⟨rfl, hb5⟩; have hz5 := Rw.below (Rw.drew HZ5.out ⟨1, rfl⟩) hb5; have c0 := Rw.cell hz5 (j := 0) rfl; have f0 := Rw.free hz5 0; have c1 := Rw.cell hz5 (j := 1) rfl; have f1 := Rw.free hz5 1; have c2 := Rw.cell hz5 (j := 2) rfl; have f2 := Rw.free hz5 2; have c3 := Rw.cell hz5 (j := 3) rfl; have f3 := Rw.free hz5 3; have c4 := Rw.cell hz5 (j := 4) rfl; have f4 := Rw.free hz5 4; have c5 := Rw.cell hz5 (j := 5) rfl; have f5 := Rw.free hz5 5; have c6 := Rw.cell hz5 (j := 6) rfl; have f6 := Rw.free hz5 6; have c7 := Rw.cell hz5 (j := 7) rfl; have f7 := Rw.free hz5 7; have c8 := Rw.cell hz5 (j := 8) rfl; have f8 := Rw.free hz5 8; have c9 := Rw.cell hz5 (j := 9) rfl; have f9 := Rw.free hz5 9) | (go_at_call 10; refine (HQ2.out _ (env_below HE.out (below_draws HB4.out ⟨1, rfl⟩))).mono ?_; rintro e w5 ⟨rfl, hb5⟩))
    · have HB6 := Lib.hid (below_more (below_then (below_draws HB4.out ⟨1, rfl⟩) hb5) (.cells #[.string S, .string U, .string P, .string H, .int .i64 pt, .string T, .bool hq, .string Q, .bool hf, .string F] 24))
      have HS6 := Lib.hid (Rw.more (Rw.below (Rw.drew HS4.out ⟨1, rfl⟩) hb5) (.cells #[.string S, .string U, .string P, .string H, .int .i64 pt, .string T, .bool hq, .string Q, .bool hf, .string F] 24))
      have HM6 := Lib.hid (Rw.alloc (base := 0) w5 24 #[.string S, .string U, .string P, .string H, .int .i64 pt, .string T, .bool hq, .string Q, .bool hf, .string F] (Nat.zero_le _))
      clear hb5
      go_wp2_with fail
      refine (HP3.out _ (env_below HE.out HB6.out)).mono ?_
      rintro e w7 ⟨rfl, hb7⟩
      have HB8 := Lib.hid (below_more (below_then HB6.out hb7) (.cells #[.string S, .string U, .string P, .string H, .int .i64 pt, .string T, .bool hq, .string Q, .bool hf, .string F] 24))
      have HS8 := Lib.hid (Rw.more (Rw.below HS6.out hb7) (.cells #[.string S, .string U, .string P, .string H, .int .i64 pt, .string T, .bool hq, .string Q, .bool hf, .string F] 24))
      have HM8 := Lib.hid (Rw.more (Rw.below HM6.out hb7) (.cells #[.string S, .string U, .string P, .string H, .int .i64 pt, .string T, .bool hq, .string Q, .bool hf, .string F] 24))
      have HN8 := Lib.hid (Rw.alloc (base := 0) w7 24 #[.string S, .string U, .string P, .string H, .int .i64 pt, .string T, .bool hq, .string Q, .bool hf, .string F] (Nat.zero_le _))
      clear hb7
      go_wp2_with fail
      refine (HU8.out _).mono ?_
      rintro e w8 ⟨rfl, hw8⟩
      rw [← hw8] at HB8 HS8 HM8 HN8
      clear hw8
      have ka0 := Rw.cell HS8.out (j := 0) rfl
      have ka1 := Rw.cell HS8.out (j := 1) rfl
      have ka2 := Rw.cell HS8.out (j := 2) rfl
      have ka3 := Rw.cell HS8.out (j := 3) rfl
      have ka4 := Rw.cell HS8.out (j := 4) rfl
      have ka5 := Rw.cell HS8.out (j := 5) rfl
      have ka6 := Rw.cell HS8.out (j := 6) rfl
      have ka7 := Rw.cell HS8.out (j := 7) rfl
      have ka8 := Rw.cell HS8.out (j := 8) rfl
      have ka9 := Rw.cell HS8.out (j := 9) rfl
      have kb0 := Rw.cell HM8.out (j := 0) rfl
      have kb1 := Rw.cell HM8.out (j := 1) rfl
      have kb2 := Rw.cell HM8.out (j := 2) rfl
      have kb3 := Rw.cell HM8.out (j := 3) rfl
      have kb4 := Rw.cell HM8.out (j := 4) rfl
      have kb5 := Rw.cell HM8.out (j := 5) rfl
      have kb6 := Rw.cell HM8.out (j := 6) rfl
      have kb7 := Rw.cell HM8.out (j := 7) rfl
      have kb8 := Rw.cell HM8.out (j := 8) rfl
      have kb9 := Rw.cell HM8.out (j := 9) rfl
      have kc0 := Rw.cell HN8.out (j := 0) rfl
      have kc1 := Rw.cell HN8.out (j := 1) rfl
      have kc2 := Rw.cell HN8.out (j := 2) rfl
      have kc3 := Rw.cell HN8.out (j := 3) rfl
      have kc4 := Rw.cell HN8.out (j := 4) rfl
      have kc5 := Rw.cell HN8.out (j := 5) rfl
      have kc6 := Rw.cell HN8.out (j := 6) rfl
      have kc7 := Rw.cell HN8.out (j := 7) rfl
      have kc8 := Rw.cell HN8.out (j := 8) rfl
      have kc9 := Rw.cell HN8.out (j := 9) rfl
      go_wp2_with fail
      refine (HAW.out _ (env_below HE.out HB8.out)).mono ?_
      rintro e w9 ⟨rfl, hb9⟩
      have HB9 := Lib.hid (below_then HB8.out hb9)
      clear hb9
      go_wp2_with fail
      go_ret
      exact ⟨rfl, HB9.out⟩
    all_goals
      have hgl : w.heap.size ≤ w3.heap.size + 1 := Nat.le_succ_of_le HB2.out.size
      have hgn : w3.heap.size + 1 ≠ w1.heap.size := by have := Rw.size HS2.out; omega
      have HB6 : Hid (Below w.heap.size w ((((((((((w5.setCell ⟨w3.heap.size + 1, 0, none⟩ (.string S)).setCell ⟨w3.heap.size + 1, 1, none⟩ (.string U)).setCell ⟨w3.heap.size + 1, 2, none⟩ (.string P)).setCell ⟨w3.heap.size + 1, 3, none⟩ (.string H)).setCell ⟨w3.heap.size + 1, 4, none⟩ (.int .i64 pt)).setCell ⟨w3.heap.size + 1, 5, none⟩ (.string T)).setCell ⟨w3.heap.size + 1, 6, none⟩ (.bool hq)).setCell ⟨w3.heap.size + 1, 7, none⟩ (.string Q)).setCell ⟨w3.heap.size + 1, 8, none⟩ (.bool hf)).setCell ⟨w3.heap.size + 1, 9, none⟩ (.string F))) := Lib.hid (below_setCells hgl [.string S, .string U, .string P, .string H, .int .i64 pt, .string T, .bool hq, .string Q, .bool hf, .string F] 0 w5 (below_then (below_draws HB5.out ⟨1, rfl⟩) hb5))
      have HS6 : Hid (Rw ((((((((((w5.setCell ⟨w3.heap.size + 1, 0, none⟩ (.string S)).setCell ⟨w3.heap.size + 1, 1, none⟩ (.string U)).setCell ⟨w3.heap.size + 1, 2, none⟩ (.string P)).setCell ⟨w3.heap.size + 1, 3, none⟩ (.string H)).setCell ⟨w3.heap.size + 1, 4, none⟩ (.int .i64 pt)).setCell ⟨w3.heap.size + 1, 5, none⟩ (.string T)).setCell ⟨w3.heap.size + 1, 6, none⟩ (.bool hq)).setCell ⟨w3.heap.size + 1, 7, none⟩ (.string Q)).setCell ⟨w3.heap.size + 1, 8, none⟩ (.bool hf)).setCell ⟨w3.heap.size + 1, 9, none⟩ (.string F)) 0 w1.heap.size 24 [.string S, .string U, .string P, .string H, .int .i64 pt, .string T, .bool hq, .string Q, .bool hf, .string F]) := Lib.hid (Rw.otherAll (Rw.below (Rw.drew HS5.out ⟨1, rfl⟩) hb5) hgn 0 [.string S, .string U, .string P, .string H, .int .i64 pt, .string T, .bool hq, .string Q, .bool hf, .string F])
      have HM6 : Hid (Rw ((((((((((w5.setCell ⟨w3.heap.size + 1, 0, none⟩ (.string S)).setCell ⟨w3.heap.size + 1, 1, none⟩ (.string U)).setCell ⟨w3.heap.size + 1, 2, none⟩ (.string P)).setCell ⟨w3.heap.size + 1, 3, none⟩ (.string H)).setCell ⟨w3.heap.size + 1, 4, none⟩ (.int .i64 pt)).setCell ⟨w3.heap.size + 1, 5, none⟩ (.string T)).setCell ⟨w3.heap.size + 1, 6, none⟩ (.bool hq)).setCell ⟨w3.heap.size + 1, 7, none⟩ (.string Q)).setCell ⟨w3.heap.size + 1, 8, none⟩ (.bool hf)).setCell ⟨w3.heap.size + 1, 9, none⟩ (.string F)) 0 (w3.heap.size + 1) 24 [.string S, .string U, .string P, .string H, .int .i64 pt, .string T, .bool hq, .string Q, .bool hf, .string F]) := Lib.hid (Rw.storedAll hz5 [.string S, .string U, .string P, .string H, .int .i64 pt, .string T, .bool hq, .string Q, .bool hf, .string F] rfl)
      clear hb5 hz5 c0 f0 c1 f1 c2 f2 c3 f3 c4 f4 c5 f5 c6 f6 c7 f7 c8 f8 c9 f9
      go_wp2_with fail
      refine (HP3.out _ (env_below HE.out HB6.out)).mono ?_
      rintro e w7 ⟨rfl, hb7⟩
      have HB8 := Lib.hid (below_more (below_then HB6.out hb7) (.cells #[.string S, .string U, .string P, .string H, .int .i64 pt, .string T, .bool hq, .string Q, .bool hf, .string F] 24))
      have HS8 := Lib.hid (Rw.more (Rw.below HS6.out hb7) (.cells #[.string S, .string U, .string P, .string H, .int .i64 pt, .string T, .bool hq, .string Q, .bool hf, .string F] 24))
      have HM8 := Lib.hid (Rw.more (Rw.below HM6.out hb7) (.cells #[.string S, .string U, .string P, .string H, .int .i64 pt, .string T, .bool hq, .string Q, .bool hf, .string F] 24))
      have HN8 := Lib.hid (Rw.alloc (base := 0) w7 24 #[.string S, .string U, .string P, .string H, .int .i64 pt, .string T, .bool hq, .string Q, .bool hf, .string F] (Nat.zero_le _))
      clear hb7
      go_wp2_with fail
      refine (HU8.out _).mono ?_
      rintro e w8 ⟨rfl, hw8⟩
      rw [← hw8] at HB8 HS8 HM8 HN8
      clear hw8
      have ka0 := Rw.cell HS8.out (j := 0) rfl
      have ka1 := Rw.cell HS8.out (j := 1) rfl
      have ka2 := Rw.cell HS8.out (j := 2) rfl
      have ka3 := Rw.cell HS8.out (j := 3) rfl
      have ka4 := Rw.cell HS8.out (j := 4) rfl
      have ka5 := Rw.cell HS8.out (j := 5) rfl
      have ka6 := Rw.cell HS8.out (j := 6) rfl
      have ka7 := Rw.cell HS8.out (j := 7) rfl
      have ka8 := Rw.cell HS8.out (j := 8) rfl
      have ka9 := Rw.cell HS8.out (j := 9) rfl
      have kb0 := Rw.cell HM8.out (j := 0) rfl
      have kb1 := Rw.cell HM8.out (j := 1) rfl
      have kb2 := Rw.cell HM8.out (j := 2) rfl
      have kb3 := Rw.cell HM8.out (j := 3) rfl
      have kb4 := Rw.cell HM8.out (j := 4) rfl
      have kb5 := Rw.cell HM8.out (j := 5) rfl
      have kb6 := Rw.cell HM8.out (j := 6) rfl
      have kb7 := Rw.cell HM8.out (j := 7) rfl
      have kb8 := Rw.cell HM8.out (j := 8) rfl
      have kb9 := Rw.cell HM8.out (j := 9) rfl
      have kc0 := Rw.cell HN8.out (j := 0) rfl
      have kc1 := Rw.cell HN8.out (j := 1) rfl
      have kc2 := Rw.cell HN8.out (j := 2) rfl
      have kc3 := Rw.cell HN8.out (j := 3) rfl
      have kc4 := Rw.cell HN8.out (j := 4) rfl
      have kc5 := Rw.cell HN8.out (j := 5) rfl
      have kc6 := Rw.cell HN8.out (j := 6) rfl
      have kc7 := Rw.cell HN8.out (j := 7) rfl
      have kc8 := Rw.cell HN8.out (j := 8) rfl
      have kc9 := Rw.cell HN8.out (j := 9) rfl
      go_wp2_with fail
      refine (HAW.out _ (env_below HE.out HB8.out)).mono ?_
      rintro e w9 ⟨rfl, hb9⟩
      have HB9 := Lib.hid (below_then HB8.out hb9)
      clear hb9
      go_wp2_with fail
      go_ret
      exact ⟨rfl, HB9.out⟩

end Go.Proofs.YtlhdafinfgdlkaaGreatDoor
