/- Plain facts: an Origin that is written is read. -/
import Derived.Test.YtdgmcpdphifmbaaGreatDoorProg
import Derived.Test.YtdgmcpdphifmbaaGreatDoorKit
import Derived.Test.YtdgmcpdphifmbaaGreatDoorAsc4
import Derived.Test.YtdgmcpdphifmbaaGreatDoorRow
import Derived.Test.YtdgmcpdphifmbaaGreatDoorTxt2
import Derived.Test.YtdgmcpdphifmbaaGreatDoorMd1
import Derived.Test.YtdgmcpdphifmbaaGreatDoorHst0
import Derived.Test.YtdgmcpdphifmbaaGreatDoorUrl0
import Derived.Test.YtdgmcpdphifmbaaGreatDoorUrl3
import Derived.Test.YtdgmcpdphifmbaaGreatDoorUrl6
import Derived.Test.YtdgmcpdphifmbaaGreatDoorUrl9
import Derived.Test.YtdgmcpdphifmbaaGreatDoorUrl12
import Derived.Test.YtdgmcpdphifmbaaGreatDoorOrg0
namespace Go.Proofs.YtdgmcpdphifmbaaGreatDoor
open Go.RowKit Go.Proofs
set_option maxRecDepth 100000

structure OShape (u : UrlM) (n : Nat) : Prop where
  osch : (defP u.sch).2 = true
  ohos : hostP u.hos = some u.hos ∧ freeL forbL u.hos ∧ plainL u.hos ∧ u.hos ≠ [] ∧ u.hos.length ≤ n + 16
  oprt : goodPt u.sch u.prt

theorem place_fact {sch l h : List UInt8} {p : Int} (hp : placeP sch l = some (h, p)) : (hostP h = some h ∧ freeL forbL h ∧ plainL h ∧ h ≠ [] ∧ h.length ≤ l.length + 16) ∧ goodPt sch p := by
  unfold placeP at hp
  cases hh : hostP (upL [58] l) with
  | none => rw [hh] at hp; exact absurd hp (by simp)
  | some h2 =>
    rw [hh] at hp
    cases hpp : portP sch ((fromL [58] l).drop 1) with
    | none => rw [hpp] at hp; exact absurd hp (by simp)
    | some p2 =>
      rw [hpp] at hp
      have e : some (h2, p2) = some (h, p) := hp
      injection e with e
      injection e with e1 e2
      subst e1 e2
      obtain ⟨_, _, h3, h4⟩ := host_low hh
      obtain ⟨f1, f2⟩ := forb_free h4
      have := host_len hh
      have := up_len [58] l
      exact ⟨⟨host_host hh, f1, f2, h3, by omega⟩, port_good hpp⟩

theorem auth_fact {sch l : List UInt8} {a : AutM} (ha : authP sch l = some a) : (hostP a.hos = some a.hos ∧ freeL forbL a.hos ∧ plainL a.hos ∧ a.hos ≠ [] ∧ a.hos.length ≤ l.length + 16) ∧ goodPt sch a.prt := by
  unfold authP at ha
  cases hla : lastAtL l with
  | none =>
    rw [hla] at ha
    obtain ⟨z, hz, rfl⟩ := Option.map_eq_some_iff.1 ha
    exact place_fact hz
  | some y =>
    obtain ⟨y1, y2⟩ := y
    obtain ⟨l1, l2⟩ := last_len hla
    rw [hla] at ha
    obtain ⟨z, hz, rfl⟩ := Option.map_eq_some_iff.1 ha
    obtain ⟨⟨a1, a2, a3, a4, a5⟩, a6⟩ := place_fact (p := z.2) (h := z.1) hz
    exact ⟨⟨a1, a2, a3, a4, Nat.le_trans a5 (by omega)⟩, a6⟩

theorem org_shape {s : List UInt8} {u : UrlM} (h : urlP s = some u) : OShape u s.length := by
  unfold urlP at h
  split at h
  · unfold bodyP at h
    cases hs : schemeP (cleanL s) with
    | none => rw [hs] at h; exact absurd h (by simp)
    | some x =>
      rw [hs] at h
      have h2 : (authP x.1 (upL authE x.2)).map (fun a => tailP x.1 a (fromL authE x.2)) = some u := h
      obtain ⟨a, ha, rfl⟩ := Option.map_eq_some_iff.1 h2
      unfold schemeP at hs
      split at hs
      · rename_i hc
        injection hs with hs
        subst hs
        obtain ⟨⟨a1, a2, a3, a4, a5⟩, a6⟩ := auth_fact ha
        refine ⟨hc.1, ⟨a1, a2, a3, a4, Nat.le_trans a5 ?_⟩, a6⟩
        have b1 := clean_len s
        have b2 := from_len [58] (cleanL s)
        have b3 : (skipL ((fromL [58] (cleanL s)).drop 1)).length ≤ ((fromL [58] (cleanL s)).drop 1).length := (List.dropWhile_sublist _).length_le
        have b4 := up_len authE (skipL ((fromL [58] (cleanL s)).drop 1))
        rw [List.length_drop] at b3
        simp only at b4 ⊢
        omega
      · exact absurd hs (by simp)
  · exact absurd h (by simp)

def oofR (o : Option UrlM) : Value := .tuple #[orgV ((o.map ofU).getD orgZ), .bool o.isSome]

set_option maxHeartbeats 2000000 in
theorem oof_any (s : ByteArray) (hs : s.size ≤ 1073741824) (w : World) (hE : Env11 w) :
    Calls Tryz.prog 14 #[.string s] w fun e w' => e = .returned (oofR (urlP s.data.toList)) ∧ Below w.heap.size w w' := by
  have hz := zero_cells Tryz.infoOrg
  obtain ⟨o, ho⟩ : ∃ o, o = urlP s.data.toList := ⟨_, rfl⟩
  have HB0 := Lib.hid (below_more (Below.refl _ w) (.cells #[.string ⟨#[]⟩, .string ⟨#[]⟩, .int .i64 0] 23))
  have HZ0 : Hid (Rw (w.alloc (.cells #[.string ⟨#[]⟩, .string ⟨#[]⟩, .int .i64 0] 23)) 0 w.heap.size 23 [.string ⟨#[]⟩, .string ⟨#[]⟩, .int .i64 0]) := Lib.hid (Rw.alloc w _ _ (Nat.zero_le _))
  have HP := uparse_any s hs _ (env_below hE HB0.out)
  rw [parsed_eq, ← ho] at HP
  rw [← ho]
  obtain ⟨u, hu⟩ : ∃ u, u = o.getD urlZ := ⟨_, rfl⟩
  have hR : oofR o = .tuple #[.agg #[strL u.sch, strL u.hos, .int .i64 (pU u.sch u.prt)], .bool (urlE o == 0)] := by
    rw [hu]
    cases o <;> rfl
  rw [hR]
  rw [← hu] at HP
  obtain ⟨n, hn⟩ : ∃ n, n = urlE o := ⟨_, rfl⟩
  rw [← hn] at HP ⊢
  clear hu hn hR ho
  obtain ⟨pt, hpt⟩ : ∃ pt, pt = u.prt := ⟨_, rfl⟩
  obtain ⟨hq, hhq⟩ : ∃ hq, hq = u.hq := ⟨_, rfl⟩
  obtain ⟨hf, hhf⟩ : ∃ hf, hf = u.hf := ⟨_, rfl⟩
  obtain ⟨S, hS⟩ : ∃ S : ByteArray, S = ⟨u.sch.toArray⟩ := ⟨_, rfl⟩
  obtain ⟨U, hU⟩ : ∃ U : ByteArray, U = ⟨u.usr.toArray⟩ := ⟨_, rfl⟩
  obtain ⟨P, hP⟩ : ∃ P : ByteArray, P = ⟨u.pas.toArray⟩ := ⟨_, rfl⟩
  obtain ⟨H, hH⟩ : ∃ H : ByteArray, H = ⟨u.hos.toArray⟩ := ⟨_, rfl⟩
  obtain ⟨T, hT⟩ : ∃ T : ByteArray, T = ⟨u.pth.toArray⟩ := ⟨_, rfl⟩
  obtain ⟨Q, hQ⟩ : ∃ Q : ByteArray, Q = ⟨u.qry.toArray⟩ := ⟨_, rfl⟩
  obtain ⟨F, hF⟩ : ∃ F : ByteArray, F = ⟨u.frg.toArray⟩ := ⟨_, rfl⟩
  unfold parsedV at HP
  rw [← hS, ← hU, ← hP, ← hH, ← hT, ← hQ, ← hF, ← hpt, ← hhq, ← hhf] at HP
  have HO : Hid (∀ W, Calls Tryz.prog 37 #[.agg #[.string S, .string U, .string P, .string H, .int .i64 pt, .string T, .bool hq, .string Q, .bool hf, .string F]] W fun e w' => e = .returned (.agg #[.string S, .string H, .int .i64 (pU S.data.toList pt)]) ∧ Below W.heap.size W w') := Lib.hid (fun W => oOf_any S U P H T Q F pt hq hf W)
  obtain ⟨p, hp⟩ : ∃ p, p = pU S.data.toList pt := ⟨_, rfl⟩
  rw [← hp] at HO
  have hV : Value.agg #[strL u.sch, strL u.hos, .int .i64 (pU u.sch u.prt)] = .agg ([.string S, .string H, .int .i64 p] : List Value).toArray := by rw [hp, hS, hH, hpt]; rfl
  have HV := Lib.hid hV
  have HP2 := Lib.hid HP
  clear hpt hhq hhf hS hU hP hH hT hQ hF hp hV hE HP
  go_enter Tryz.func14, Tryz.ntmps14
  go_wp2_with fail
  refine HP2.out.mono ?_
  rintro e w1 ⟨rfl, hb1⟩
  have HB1 := Lib.hid (below_more (below_then HB0.out hb1) (.cells #[.string S, .string U, .string P, .string H, .int .i64 pt, .string T, .bool hq, .string Q, .bool hf, .string F] 27))
  have HZ1 := Lib.hid (Rw.more (Rw.below HZ0.out hb1) (.cells #[.string S, .string U, .string P, .string H, .int .i64 pt, .string T, .bool hq, .string Q, .bool hf, .string F] 27))
  have HU1 : Hid (Rw (w1.alloc (.cells #[.string S, .string U, .string P, .string H, .int .i64 pt, .string T, .bool hq, .string Q, .bool hf, .string F] 27)) 0 w1.heap.size 27 [.string S, .string U, .string P, .string H, .int .i64 pt, .string T, .bool hq, .string Q, .bool hf, .string F]) := Lib.hid (Rw.alloc w1 _ _ (Nat.zero_le _))
  clear hb1
  have k0 := Rw.cell HU1.out (j := 0) rfl
  have k1 := Rw.cell HU1.out (j := 1) rfl
  have k2 := Rw.cell HU1.out (j := 2) rfl
  have k3 := Rw.cell HU1.out (j := 3) rfl
  have k4 := Rw.cell HU1.out (j := 4) rfl
  have k5 := Rw.cell HU1.out (j := 5) rfl
  have k6 := Rw.cell HU1.out (j := 6) rfl
  have k7 := Rw.cell HU1.out (j := 7) rfl
  have k8 := Rw.cell HU1.out (j := 8) rfl
  have k9 := Rw.cell HU1.out (j := 9) rfl
  go_wp2_with fail
  refine (HO.out _).mono ?_
  rintro e w2 ⟨rfl, hb2⟩
  have HB2 := Lib.hid (below_then HB1.out hb2)
  have HZ2 := Lib.hid (Rw.below HZ1.out hb2)
  clear hb2
  have c0 := Rw.cell HZ2.out (j := 0) rfl
  have c1 := Rw.cell HZ2.out (j := 1) rfl
  have c2 := Rw.cell HZ2.out (j := 2) rfl
  have f0 := Rw.free HZ2.out 0
  have f1 := Rw.free HZ2.out 1
  have f2 := Rw.free HZ2.out 2
  go_wp2_with fail
  have HW := Rw.storedAll HZ2.out [.string S, .string H, .int .i64 p] rfl
  refine bodyPost_ret (v := .tuple #[.agg ([.string S, .string H, .int .i64 p] : List Value).toArray, .bool (n == 0)]) ?_ rfl ?_
  case refine_2 => rw [HV.out]; exact ⟨rfl, below_stores HB2.out (Nat.le_refl _) [.string S, .string H, .int .i64 p]⟩
  exact results_row_tmp rfl _ _ w.heap.size 0 23 [.string S, .string H, .int .i64 p] _ rfl HW Tryz.underlying23 rfl Tryz.sizeOrg (.bool (n == 0)) rfl

def oaA : List UInt8 := [104, 116, 116, 112, 115, 58, 47, 47, 97, 58, 52, 52, 51, 47, 120]

def oaB : List UInt8 := [104, 116, 116, 112, 58, 47, 47, 49, 50, 55, 46, 57, 46, 57, 46, 57]

theorem oa_a : (bodyP oaA).map ofU = some ⟨[104, 116, 116, 112, 115], [97], 443⟩ := by kernel_rfl

theorem oa_b : (bodyP oaB).map ofU = some ⟨[104, 116, 116, 112], [49, 50, 55, 46, 57, 46, 57, 46, 57], 80⟩ := by kernel_rfl

theorem oa_t : textO ⟨[104, 116, 116, 112, 115], [97], 443⟩ = [104, 116, 116, 112, 115, 58, 47, 47, 97] := by kernel_rfl

theorem oa_n : textO ⟨[], [], 0⟩ = nullL := by kernel_rfl

theorem oa_r : trustO ⟨[104, 116, 116, 112], [49, 50, 55, 46, 57, 46, 57, 46, 57], 80⟩ = true := by kernel_rfl

set_option maxHeartbeats 2000000 in
theorem oawake_any (w : World) (hE : Env11 w) : Calls Tryz.prog 5 #[] w fun e w' => e = .returned (.bool true) ∧ Below w.heap.size w w' := by
  have HA : Hid (∀ W, Env11 W → Calls Tryz.prog 14 #[.string ⟨#[104, 116, 116, 112, 115, 58, 47, 47, 97, 58, 52, 52, 51, 47, 120]⟩] W fun e w' => e = .returned (.tuple #[.agg #[.string ⟨#[104, 116, 116, 112, 115]⟩, .string ⟨#[97]⟩, .int .i64 443], .bool true]) ∧ Below W.heap.size W w') := Lib.hid (by
    intro W hW
    refine (oof_any ⟨oaA.toArray⟩ (by decide) W hW).mono ?_
    rintro e w' ⟨rfl, hb⟩
    refine ⟨?_, hb⟩
    have e1 : (urlP (⟨oaA.toArray⟩ : ByteArray).data.toList).map ofU = some ⟨[104, 116, 116, 112, 115], [97], 443⟩ := by
      show (urlP oaA).map ofU = _
      rw [url_plain (by unfold plainL; decide) (by decide), oa_a]
    unfold oofR
    rw [← Option.isSome_map (f := ofU), e1]
    rfl)
  have HB : Hid (∀ W, Env11 W → Calls Tryz.prog 14 #[.string ⟨#[104, 116, 116, 112, 58, 47, 47, 49, 50, 55, 46, 57, 46, 57, 46, 57]⟩] W fun e w' => e = .returned (.tuple #[.agg #[.string ⟨#[104, 116, 116, 112]⟩, .string ⟨#[49, 50, 55, 46, 57, 46, 57, 46, 57]⟩, .int .i64 80], .bool true]) ∧ Below W.heap.size W w') := Lib.hid (by
    intro W hW
    refine (oof_any ⟨oaB.toArray⟩ (by decide) W hW).mono ?_
    rintro e w' ⟨rfl, hb⟩
    refine ⟨?_, hb⟩
    have e1 : (urlP (⟨oaB.toArray⟩ : ByteArray).data.toList).map ofU = some ⟨[104, 116, 116, 112], [49, 50, 55, 46, 57, 46, 57, 46, 57], 80⟩ := by
      show (urlP oaB).map ofU = _
      rw [url_plain (by unfold plainL; decide) (by decide), oa_b]
    unfold oofR
    rw [← Option.isSome_map (f := ofU), e1]
    rfl)
  have HT1 : Hid (∀ W, Env11 W → Calls Tryz.prog 15 #[.agg #[.string ⟨#[104, 116, 116, 112, 115]⟩, .string ⟨#[97]⟩, .int .i64 443]] W fun e w' => e = .returned (.string ⟨#[104, 116, 116, 112, 115, 58, 47, 47, 97]⟩) ∧ Below W.heap.size W w') := Lib.hid (by
    intro W hW
    refine (otext_any ⟨#[104, 116, 116, 112, 115]⟩ ⟨#[97]⟩ 443 (by decide) (by decide) (by decide) W hW.2.1).mono ?_
    rintro e w' ⟨rfl, hb⟩
    refine ⟨?_, hb⟩
    show Ending.returned (strL (textO ⟨[104, 116, 116, 112, 115], [97], 443⟩)) = _
    rw [oa_t]
    rfl)
  have HT2 : Hid (∀ W, Env11 W → Calls Tryz.prog 15 #[.agg #[.string ⟨#[]⟩, .string ⟨#[]⟩, .int .i64 0]] W fun e w' => e = .returned (.string ⟨#[110, 117, 108, 108]⟩) ∧ Below W.heap.size W w') := Lib.hid (by
    intro W hW
    refine (otext_any ⟨#[]⟩ ⟨#[]⟩ 0 (by decide) (by decide) (by decide) W hW.2.1).mono ?_
    rintro e w' ⟨rfl, hb⟩
    refine ⟨?_, hb⟩
    show Ending.returned (strL (textO ⟨[], [], 0⟩)) = _
    rw [oa_n]
    rfl)
  have HTR : Hid (∀ W, Env11 W → Calls Tryz.prog 10 #[.agg #[.string ⟨#[104, 116, 116, 112]⟩, .string ⟨#[49, 50, 55, 46, 57, 46, 57, 46, 57]⟩, .int .i64 80]] W fun e w' => e = .returned (.bool true) ∧ Below W.heap.size W w') := Lib.hid (by
    intro W hW
    refine (otrusted_any ⟨#[104, 116, 116, 112]⟩ ⟨#[49, 50, 55, 46, 57, 46, 57, 46, 57]⟩ 80 (by decide) W hW.2.1).mono ?_
    rintro e w' ⟨rfl, hb⟩
    refine ⟨?_, hb⟩
    show Ending.returned (Value.bool (trustO ⟨[104, 116, 116, 112], [49, 50, 55, 46, 57, 46, 57, 46, 57], 80⟩)) = _
    rw [oa_r])
  have HE := Lib.hid hE
  clear hE
  go_enter Tryz.func5, Tryz.ntmps5
  go_wp2_with fail
  refine (HA.out w HE.out).mono ?_
  rintro e w1 ⟨rfl, hb1⟩
  have HB1 := Lib.hid (below_more hb1 (.cells #[.string ⟨#[104, 116, 116, 112, 115]⟩, .string ⟨#[97]⟩, .int .i64 443] 23))
  have HR1 : Hid (Rw (w1.alloc (.cells #[.string ⟨#[104, 116, 116, 112, 115]⟩, .string ⟨#[97]⟩, .int .i64 443] 23)) 0 w1.heap.size 23 [.string ⟨#[104, 116, 116, 112, 115]⟩, .string ⟨#[97]⟩, .int .i64 443]) := Lib.hid (Rw.alloc w1 _ _ (Nat.zero_le _))
  clear hb1
  go_wp2_with fail
  refine (HB.out _ (env_below HE.out HB1.out)).mono ?_
  rintro e w2 ⟨rfl, hb2⟩
  have HB2 := Lib.hid (below_more (below_then HB1.out hb2) (.cells #[.string ⟨#[104, 116, 116, 112]⟩, .string ⟨#[49, 50, 55, 46, 57, 46, 57, 46, 57]⟩, .int .i64 80] 23))
  have HR2 := Lib.hid (Rw.more (Rw.below HR1.out hb2) (.cells #[.string ⟨#[104, 116, 116, 112]⟩, .string ⟨#[49, 50, 55, 46, 57, 46, 57, 46, 57]⟩, .int .i64 80] 23))
  have HQ2 : Hid (Rw (w2.alloc (.cells #[.string ⟨#[104, 116, 116, 112]⟩, .string ⟨#[49, 50, 55, 46, 57, 46, 57, 46, 57]⟩, .int .i64 80] 23)) 0 w2.heap.size 23 [.string ⟨#[104, 116, 116, 112]⟩, .string ⟨#[49, 50, 55, 46, 57, 46, 57, 46, 57]⟩, .int .i64 80]) := Lib.hid (Rw.alloc w2 _ _ (Nat.zero_le _))
  clear hb2
  have ka0 := Rw.cell HR2.out (j := 0) rfl
  have ka1 := Rw.cell HR2.out (j := 1) rfl
  have ka2 := Rw.cell HR2.out (j := 2) rfl
  have kb0 := Rw.cell HQ2.out (j := 0) rfl
  have kb1 := Rw.cell HQ2.out (j := 1) rfl
  have kb2 := Rw.cell HQ2.out (j := 2) rfl
  go_wp2_with fail
  refine (HT1.out _ (env_below HE.out HB2.out)).mono ?_
  rintro e w3 ⟨rfl, hb3⟩
  have HB3 := Lib.hid (below_then HB2.out hb3)
  have HQ3 := Lib.hid (Rw.below HQ2.out hb3)
  clear hb3 ka0 ka1 ka2 kb0 kb1 kb2
  have kc0 := Rw.cell HQ3.out (j := 0) rfl
  have kc1 := Rw.cell HQ3.out (j := 1) rfl
  have kc2 := Rw.cell HQ3.out (j := 2) rfl
  go_wp2_with fail
  refine (HTR.out _ (env_below HE.out HB3.out)).mono ?_
  rintro e w4 ⟨rfl, hb4⟩
  have HB4 := Lib.hid (below_then HB3.out hb4)
  clear hb4 kc0 kc1 kc2
  go_wp2_with fail
  refine (HT2.out _ (env_below HE.out HB4.out)).mono ?_
  rintro e w5 ⟨rfl, hb5⟩
  have HB5 := Lib.hid (below_then HB4.out hb5)
  clear hb5
  go_wp2_with fail
  go_ret
  exact ⟨rfl, HB5.out⟩

end Go.Proofs.YtdgmcpdphifmbaaGreatDoor
