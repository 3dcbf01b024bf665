/- UrlDots: its walk. -/
import Derived.Test.YtlhdafinfgdlkaaGreatDoorProg
import Derived.Test.YtlhdafinfgdlkaaGreatDoorKit
import Derived.Test.YtlhdafinfgdlkaaGreatDoorInfo
import Derived.Test.YtlhdafinfgdlkaaGreatDoorAsc7
import Derived.Test.YtlhdafinfgdlkaaGreatDoorRow
import Derived.Test.YtlhdafinfgdlkaaGreatDoorFrm11
import Derived.Test.YtlhdafinfgdlkaaGreatDoorHst1
import Derived.Test.YtlhdafinfgdlkaaGreatDoorHst6
import Derived.Test.YtlhdafinfgdlkaaGreatDoorUrl4
import Derived.Test.YtlhdafinfgdlkaaGreatDoorUrl6
import Derived.Test.YtlhdafinfgdlkaaGreatDoorUrl9
import Derived.Test.YtlhdafinfgdlkaaGreatDoorUrl12
import Derived.Test.YtlhdafinfgdlkaaGreatDoorUrl15
namespace Go.Proofs.YtlhdafinfgdlkaaGreatDoor
open Go.RowKit Go.Proofs
set_option maxRecDepth 100000

def cntS (c n : Nat) : Nat := if n = 1 then c else if n = 2 then c - 1 else c + 1

theorem want_cnt : ∀ (ns : List Nat) (c : Nat), ns.foldl wantS (List.replicate c [120]) = List.replicate (ns.foldl cntS c) [120]
  | [], _ => rfl
  | n :: r, c => by
    rw [List.foldl_cons, List.foldl_cons, ← want_cnt r]
    congr 1
    unfold wantS cntS
    split
    · rfl
    · split
      · rw [List.dropLast_replicate]
      · rw [List.replicate_succ']

theorem last_snoc : ∀ (ns : List Nat) (n : Nat), lastDot (ns ++ [n]) = isDot n
  | [], _ => rfl
  | [_], _ => rfl
  | _ :: m :: r, n => last_snoc (m :: r) n

theorem slash_snoc (l : List (List UInt8)) (p : List UInt8) : slashL (l ++ [p]) = slashL l ++ 47 :: p := by rw [slash_app]; unfold slashL; simp

theorem dots_len (ns : List Nat) : (slashL (ns.map dotT)).length ≤ 5 * ns.length := by
  rw [tot_slash]
  unfold totL2
  induction ns with
  | nil => simp
  | cons n r ih =>
    have := (dotT_fact n).2.2.2.2
    simp only [List.map_cons, List.sum_cons, List.length_cons]
    omega

theorem xs_len (m : Nat) : (slashL (List.replicate m [120])).length ≤ 2 * m := by
  induction m with
  | zero => simp [slashL]
  | succ m ih => rw [List.replicate_succ', slash_snoc, List.length_append]; simp; omega

theorem path_add (P y : ByteArray) {l : List UInt8} (hy : y.data.toList = l) : P ++ (⟨#[47]⟩ : ByteArray) ++ y = ⟨(P.data.toList ++ 47 :: l).toArray⟩ := ByteArray.ext (Array.ext' (by rw [mk_app, mk_app, hy]; simp))

def baseD : List UInt8 := [104, 116, 116, 112, 58, 47, 47, 97]

def xV : Value := .string ⟨#[120]⟩

set_option maxHeartbeats 1000000 in
theorem urlDots_any (v : Value) (zs : List ByteArray) (w : World) (hv : SliceAt w v (zs.map strV)) (hl : zs.length * 16 ≤ 140737488351232) (hz : ∀ z ∈ zs, z.size ≤ 140737488351232) (hE : Env11 w) :
    Calls Tryz.prog 7 #[v] w fun e w' => e = .returned (.bool true) ∧ Below w.heap.size w w' := by
  obtain ⟨i0, hi, hz0, hz1, hz2⟩ := info_parts Tryz.infoStr
  have HE := Lib.hid hE
  have HAW := Lib.hid (fun W (hW : Env11 W) => uawake_any W hW)
  have HZ : Hid (∀ z ∈ zs, z.size ≤ 281474976710656) := Lib.hid fun z h => Nat.le_trans (hz z h) (by decide)
  have HTO := Lib.hid (total_any v zs 3000 w (by decide) (by omega) HZ.out hv)
  obtain ⟨a, c, rfl, hsl⟩ := hv
  have HSL := Lib.hid hsl
  obtain ⟨N, hN⟩ : ∃ N, N = zs.length := ⟨_, rfl⟩
  have HN := Lib.hid hN
  rw [List.length_map, ← hN] at HTO
  rw [List.length_map, ← hN]
  rw [← hN] at hl
  clear hz hE hsl hN
  go_enter Tryz.func7, Tryz.ntmps7
  go_wp2_with fail
  refine HTO.out.mono ?_
  rintro e w' ⟨⟨r, rfl, hr1, hr2⟩, hww⟩
  have hww2 := hww.symm
  clear hww
  subst hww2
  by_cases hbig : 3000 < r ∨ 60 < (N : Int)
  · rcases (by omega : 3000 < r ∨ (¬ 3000 < r ∧ 60 < (N : Int))) with h | ⟨h, h2⟩
    all_goals
      clear hbig
      go_wp2_with fail
      refine (HAW.out _ HE.out).mono ?_
      rintro e w1 ⟨rfl, hb1⟩
      have HB1 := Lib.hid hb1
      clear hb1
      go_wp2_with fail
      go_ret
      exact ⟨rfl, HB1.out⟩
  have h1 : ¬ 3000 < r := by omega
  have h2 : ¬ 60 < (N : Int) := by omega
  have hN60 : N ≤ 60 := by omega
  clear hbig
  go_wp2
  go_loopw [3, 4, 5, 6] (fun p v l i wr => ∃ (k m : Nat) (P L : ByteArray) (ns : List Nat), p = .string P ∧ l = .string L ∧ i = .int .i64 k ∧ k ≤ N ∧ m ≤ k ∧ P.size ≤ 400 ∧ wr.ownsRow w.heap.size 9 1 v m (List.replicate m xV) ∧ Hid (ns.length = k) ∧ Hid (P = ⟨(baseD ++ slashL (ns.map dotT)).toArray⟩) ∧ Hid (m = ns.foldl cntS 0) ∧ Hid (L = if lastDot ns then ⟨#[]⟩ else ⟨#[120]⟩) ∧ Hid (Below w.heap.size w wr)) (fun _ _ _ i _ => N - (intOf i).toNat)
  case atStart => exact ⟨0, 0, ⟨#[104, 116, 116, 112, 58, 47, 47, 97]⟩, ⟨#[]⟩, [], rfl, rfl, rfl, by omega, by omega, by decide, World.ownsRow_nil _ _ _ _, Lib.hid rfl, Lib.hid rfl, Lib.hid rfl, Lib.hid rfl, Lib.hid (Below.refl _ _)⟩
  case round =>
    obtain ⟨k, m, P, L, ns, rfl, rfl, rfl, hk, hmk, hP, hown, HNS, HP, HM, HL, HB⟩ := hrel
    obtain ⟨wo, hwo⟩ : ∃ wo : World, wo = wr := ⟨_, rfl⟩
    subst hwo
    have hk0 : (0 : Int) ≤ (k : Int) := by omega
    by_cases hlt : k < N
    · have hkz : (k : Int) < (N : Int) := by omega
      obtain ⟨z, hzk⟩ : ∃ z, zs[k]? = some z := ⟨_, List.getElem?_eq_getElem (by have := HN.out; omega)⟩
      have hzs := HZ.out z (List.mem_of_getElem? hzk)
      rcases HSL.out with hnil | ⟨b, off, rfl, hc⟩
      · exact absurd (show N = 0 by rw [HN.out, List.map_eq_nil_iff.1 hnil]; rfl) (by omega)
      have hc1 := hc k (strV z) (by rw [List.getElem?_map, hzk]; rfl)
      have hcell : wo.cell? ⟨b, off + k, none⟩ = some (.string z) := (HB.out.cell (block_of_cell hc1)).trans hc1
      have HRD := Lib.hid (fun W => round_any (z.size : Int) 4 W (by omega) (by decide))
      clear hc hc1 hzk
      have HPS : ∀ n : Nat, Hid (baseD ++ slashL ((ns ++ [n]).map dotT) = P.data.toList ++ 47 :: dotT n) := fun n => Lib.hid (by
        rw [HP.out, List.map_append, List.map_singleton, slash_snoc]
        simp)
      have HSS : ∀ n : Nat, Hid ((baseD ++ slashL ((ns ++ [n]).map dotT)).length ≤ 400) := fun n => Lib.hid (by
        have := dots_len (ns ++ [n])
        rw [List.length_append, HNS.out] at this
        rw [List.length_append]
        simp [baseD] at *
        omega)
      have HMS : ∀ n : Nat, Hid ((ns ++ [n]).foldl cntS 0 = cntS m n) := fun n => Lib.hid (by rw [List.foldl_append, ← HM.out]; rfl)
      have HNL : ∀ n : Nat, Hid ((ns ++ [n]).length = k + 1) := fun n => Lib.hid (by rw [List.length_append, HNS.out]; rfl)
      have HZE := HE
      go_wp2_with fail
      refine (HRD.out _).mono ?_
      rintro e w1 ⟨⟨r2, hr4, rfl⟩, rfl⟩
      rcases (by omega : r2 = 1 ∨ r2 = 2 ∨ r2 = 0 ∨ r2 = 3) with rfl | rfl | rfl | rfl
      · have HPX : Hid (P ++ (⟨#[47]⟩ : ByteArray) ++ (⟨#[46]⟩ : ByteArray) = ⟨(baseD ++ slashL ((ns ++ [1]).map dotT)).toArray⟩) := Lib.hid (by rw [(HPS 1).out]; exact path_add P _ rfl)
        have hps : (P ++ (⟨#[47]⟩ : ByteArray) ++ (⟨#[46]⟩ : ByteArray)).size ≤ 400 := by rw [HPX.out, mk_size]; exact (HSS 1).out
        have HMX : Hid (m = (ns ++ [1]).foldl cntS 0) := Lib.hid (by rw [(HMS 1).out]; rfl)
        have HLX : Hid ((⟨#[]⟩ : ByteArray) = if lastDot (ns ++ [1]) then ⟨#[]⟩ else ⟨#[120]⟩) := Lib.hid (by rw [last_snoc]; rfl)
        go_wp2_with fail
        go_roundw
        case rel => exact ⟨k + 1, m, _, _, ns ++ [1], rfl, rfl, by go_num, by omega, by omega, hps, hown, HNL 1, HPX, HMX, HLX, HB⟩
        case measure => simp [intOf] <;> omega
      · have HPX : Hid (P ++ (⟨#[47]⟩ : ByteArray) ++ (⟨#[37, 50, 69, 46]⟩ : ByteArray) = ⟨(baseD ++ slashL ((ns ++ [2]).map dotT)).toArray⟩) := Lib.hid (by rw [(HPS 2).out]; exact path_add P _ rfl)
        have hps : (P ++ (⟨#[47]⟩ : ByteArray) ++ (⟨#[37, 50, 69, 46]⟩ : ByteArray)).size ≤ 400 := by rw [HPX.out, mk_size]; exact (HSS 2).out
        have HLX : Hid ((⟨#[]⟩ : ByteArray) = if lastDot (ns ++ [2]) then ⟨#[]⟩ else ⟨#[120]⟩) := Lib.hid (by rw [last_snoc]; rfl)
        cases m with
        | zero =>
          have HMX : Hid (0 = (ns ++ [2]).foldl cntS 0) := Lib.hid (by rw [(HMS 2).out]; rfl)
          obtain ⟨va, vc, rfl⟩ := own_len hown
          go_wp2_with fail
          go_roundw
          case rel => exact ⟨k + 1, 0, _, _, ns ++ [2], rfl, rfl, by go_num, by omega, by omega, hps, hown, HNL 2, HPX, HMX, HLX, HB⟩
          case measure => simp [intOf] <;> omega
        | succ m =>
          have HMX : Hid (m = (ns ++ [2]).foldl cntS 0) := Lib.hid (by rw [(HMS 2).out]; rfl)
          obtain ⟨vg, vc, rfl, _⟩ := own_some hown (by omega)
          obtain ⟨hown2, hcap⟩ := own_trunc hown
          rw [List.take_replicate, Nat.min_eq_left (by omega)] at hown2
          have hpz : (0 : Int) < (m : Int) + 1 := by omega
          have hm0 : (0 : Int) ≤ (m : Int) := by omega
          have hc0 : ¬ vc = 0 := by omega
          have hmcz : (m : Int) ≤ (vc : Int) := by omega
          go_wp2_with fail
          go_roundw
          case rel => exact ⟨k + 1, m, _, _, ns ++ [2], rfl, rfl, by go_num, by omega, by omega, hps, hown2, HNL 2, HPX, HMX, HLX, HB⟩
          case measure => simp [intOf] <;> omega
      · have HPX : Hid (P ++ (⟨#[47]⟩ : ByteArray) ++ (⟨#[120]⟩ : ByteArray) = ⟨(baseD ++ slashL ((ns ++ [0]).map dotT)).toArray⟩) := Lib.hid (by rw [(HPS 0).out]; exact path_add P _ rfl)
        have hps : (P ++ (⟨#[47]⟩ : ByteArray) ++ (⟨#[120]⟩ : ByteArray)).size ≤ 400 := by rw [HPX.out, mk_size]; exact (HSS 0).out
        have HMX : Hid (m + 1 = (ns ++ [0]).foldl cntS 0) := Lib.hid (by rw [(HMS 0).out]; rfl)
        have HLX : Hid ((⟨#[120]⟩ : ByteArray) = if lastDot (ns ++ [0]) then ⟨#[]⟩ else ⟨#[120]⟩) := Lib.hid (by rw [last_snoc]; rfl)
        go_wp2_with (at_builtin; refine wpList_append1 rfl _ _ 39 rfl w.heap.size 9 rfl i0 (.string ByteArray.empty) 16 Tryz.underlying39 hi hz0 hz1 hz2 rfl _ m _ rfl hown rfl rfl (by omega) (by omega) (Nat.le_trans HB.out.size (Nat.le_refl _)) ?_; intro v' w3 hown' hb3)
        go_roundw
        case rel => exact ⟨k + 1, m + 1, _, _, ns ++ [0], rfl, rfl, by go_num, by omega, by omega, hps, by rw [List.replicate_succ']; exact hown', HNL 0, HPX, HMX, HLX, Lib.hid (HB.out.trans hb3)⟩
        case measure => simp [intOf] <;> omega
      · have HPX : Hid (P ++ (⟨#[47]⟩ : ByteArray) ++ (⟨#[120]⟩ : ByteArray) = ⟨(baseD ++ slashL ((ns ++ [3]).map dotT)).toArray⟩) := Lib.hid (by rw [(HPS 3).out]; exact path_add P _ rfl)
        have hps : (P ++ (⟨#[47]⟩ : ByteArray) ++ (⟨#[120]⟩ : ByteArray)).size ≤ 400 := by rw [HPX.out, mk_size]; exact (HSS 3).out
        have HMX : Hid (m + 1 = (ns ++ [3]).foldl cntS 0) := Lib.hid (by rw [(HMS 3).out]; rfl)
        have HLX : Hid ((⟨#[120]⟩ : ByteArray) = if lastDot (ns ++ [3]) then ⟨#[]⟩ else ⟨#[120]⟩) := Lib.hid (by rw [last_snoc]; rfl)
        go_wp2_with (at_builtin; refine wpList_append1 rfl _ _ 39 rfl w.heap.size 9 rfl i0 (.string ByteArray.empty) 16 Tryz.underlying39 hi hz0 hz1 hz2 rfl _ m _ rfl hown rfl rfl (by omega) (by omega) (Nat.le_trans HB.out.size (Nat.le_refl _)) ?_; intro v' w3 hown' hb3)
        go_roundw
        case rel => exact ⟨k + 1, m + 1, _, _, ns ++ [3], rfl, rfl, by go_num, by omega, by omega, hps, by rw [List.replicate_succ']; exact hown', HNL 3, HPX, HMX, HLX, Lib.hid (HB.out.trans hb3)⟩
        case measure => simp [intOf] <;> omega
    · have hkz : ¬ (k : Int) < (N : Int) := by omega
      have HU := dots_url ns (by have := HNS.out; omega)
      obtain ⟨u, hu, hup⟩ := HU
      have HP0 := Lib.hid (fun W (hW : Env11 W) => uparse_any P (by omega) W hW)
      have hPl : P.data.toList = [104, 116, 116, 112, 58, 47, 47, 97] ++ slashL (ns.map dotT) := by rw [HP.out]; rfl
      rw [hPl, hu] at HP0
      have HP2 : Hid (∀ W, Env11 W → Calls Tryz.prog 10 #[.string P] W fun e w' => e = .returned (parsedV u 0) ∧ Below W.heap.size W w') := HP0
      have hw0 := want_cnt ns 0
      rw [← HM.out] at hw0
      have hw1 : ns.foldl wantS [] = List.replicate m [120] := hw0
      rw [hw1] at hup
      clear hPl hu HP0 hw0 hw1
      obtain ⟨pt, hpt⟩ : ∃ pt, pt = u.prt := ⟨_, rfl⟩
      obtain ⟨hq, hhq⟩ : ∃ hq, hq = u.hq := ⟨_, rfl⟩
      obtain ⟨hf, hhf⟩ : ∃ hf, hf = u.hf := ⟨_, rfl⟩
      obtain ⟨S, hS⟩ : ∃ S : ByteArray, S = ⟨u.sch.toArray⟩ := ⟨_, rfl⟩
      obtain ⟨U, hU⟩ : ∃ U : ByteArray, U = ⟨u.usr.toArray⟩ := ⟨_, rfl⟩
      obtain ⟨A, hA⟩ : ∃ A : ByteArray, A = ⟨u.pas.toArray⟩ := ⟨_, rfl⟩
      obtain ⟨H, hH⟩ : ∃ H : ByteArray, H = ⟨u.hos.toArray⟩ := ⟨_, rfl⟩
      obtain ⟨T, hT⟩ : ∃ T : ByteArray, T = ⟨u.pth.toArray⟩ := ⟨_, rfl⟩
      obtain ⟨Q, hQ⟩ : ∃ Q : ByteArray, Q = ⟨u.qry.toArray⟩ := ⟨_, rfl⟩
      obtain ⟨F, hF⟩ : ∃ F : ByteArray, F = ⟨u.frg.toArray⟩ := ⟨_, rfl⟩
      unfold parsedV at HP2
      rw [← hS, ← hU, ← hA, ← hH, ← hT, ← hQ, ← hF, ← hpt, ← hhq, ← hhf] at HP2
      rw [hup] at hT
      have HT := Lib.hid hT
      clear hS hU hA hH hT hQ hF hpt hhq hhf hup
      obtain ⟨va, vc, rfl⟩ := own_len hown
      have HOW := Lib.hid hown
      have hmz : (m : Int) ≤ 60 := by omega
      go_wp2_with fail
      go_loopw [8, 9] (fun t j w2 => w2 = wo ∧ ∃ (q : Nat) (X : ByteArray), t = .string X ∧ j = .int .i64 q ∧ q ≤ m ∧ X.size ≤ 200 ∧ Hid (X = ⟨(slashL (List.replicate q [120])).toArray⟩)) (fun _ j _ => m - (intOf j).toNat)
      case atStart => exact ⟨rfl, 0, ⟨#[]⟩, rfl, rfl, by omega, by decide, Lib.hid rfl⟩
      case round =>
        obtain ⟨hww, q, X, rfl, rfl, hq0, hXs, HX⟩ := hrel
        have hww2 := hww.symm
        clear hww
        subst hww2
        have hqi : (0 : Int) ≤ (q : Int) := by omega
        by_cases hqm : q < m
        · have hqz : (q : Int) < (m : Int) := by omega
          obtain ⟨vg, vc2, hvv, _⟩ := own_some HOW.out (by omega)
          cases hvv
          have hcell := World.ownsRow.cellAt HOW.out q (by omega)
          rw [List.getElem?_replicate, if_pos hqm] at hcell
          have hcell2 : wo.cell? ⟨vg, q, none⟩ = some (.string ⟨#[120]⟩) := hcell
          have HXX : Hid (X ++ (⟨#[47]⟩ : ByteArray) ++ (⟨#[120]⟩ : ByteArray) = ⟨(slashL (List.replicate (q + 1) [120])).toArray⟩) := Lib.hid (by rw [List.replicate_succ', slash_snoc, HX.out]; exact ByteArray.ext (by simp [ByteArray.data_append]))
          have hxs : (X ++ (⟨#[47]⟩ : ByteArray) ++ (⟨#[120]⟩ : ByteArray)).size ≤ 200 := by rw [HXX.out, mk_size]; have := xs_len (q + 1); omega
          clear hcell
          go_wp2_with fail
          go_roundw
          case rel => exact ⟨by first | rfl | trivial, q + 1, _, rfl, by go_num, by omega, hxs, HXX⟩
          case measure => simp [intOf] <;> omega
        · have hqz : ¬ (q : Int) < (m : Int) := by omega
          obtain rfl : q = m := by omega
          rcases Bool.eq_false_or_eq_true (lastDot ns) with hld | hld
          · have hLL : L = ⟨#[]⟩ := by rw [HL.out, hld]; rfl
            subst hLL
            have hTT : T = X ++ (⟨#[47]⟩ : ByteArray) := by rw [HT.out, HX.out, hld]; exact ByteArray.ext (by simp [ByteArray.data_append])
            subst hTT
            have hxx : ((X ++ (⟨#[47]⟩ : ByteArray)).toList == (X ++ (⟨#[47]⟩ : ByteArray)).toList) = true := beq_self_eq_true _
            clear hld HT
            go_wp2_with fail
            refine (HP2.out _ (env_below HE.out HB.out)).mono ?_
            rintro e w1 ⟨rfl, hb1⟩
            have HB1 := Lib.hid (below_more (HB.out.trans (hb1.mono HB.out.size)) (.cells #[.string S, .string U, .string A, .string H, .int .i64 pt, .string (X ++ (⟨#[47]⟩ : ByteArray)), .bool hq, .string Q, .bool hf, .string F] 24))
            have k5 := Rw.cell (Rw.alloc (base := 0) w1 24 #[.string S, .string U, .string A, .string H, .int .i64 pt, .string (X ++ (⟨#[47]⟩ : ByteArray)), .bool hq, .string Q, .bool hf, .string F] (Nat.zero_le _)) (j := 5) rfl
            clear hb1
            go_wp2_with fail
            refine (HAW.out _ (env_below HE.out HB1.out)).mono ?_
            rintro e w2 ⟨rfl, hb2⟩
            have HB2 := Lib.hid (below_then HB1.out hb2)
            clear hb2
            go_wp2_with fail
            go_ret
            exact ⟨rfl, HB2.out⟩
          · have hLL : L = ⟨#[120]⟩ := by rw [HL.out, hld]; rfl
            subst hLL
            have hTT : T = X := by rw [HT.out, HX.out, hld]; simp
            subst hTT
            have hxx : (T.toList == T.toList) = true := beq_self_eq_true _
            clear hld HT
            go_wp2_with fail
            refine (HP2.out _ (env_below HE.out HB.out)).mono ?_
            rintro e w1 ⟨rfl, hb1⟩
            have HB1 := Lib.hid (below_more (HB.out.trans (hb1.mono HB.out.size)) (.cells #[.string S, .string U, .string A, .string H, .int .i64 pt, .string T, .bool hq, .string Q, .bool hf, .string F] 24))
            have k5 := Rw.cell (Rw.alloc (base := 0) w1 24 #[.string S, .string U, .string A, .string H, .int .i64 pt, .string T, .bool hq, .string Q, .bool hf, .string F] (Nat.zero_le _)) (j := 5) rfl
            clear hb1
            go_wp2_with fail
            refine (HAW.out _ (env_below HE.out HB1.out)).mono ?_
            rintro e w2 ⟨rfl, hb2⟩
            have HB2 := Lib.hid (below_then HB1.out hb2)
            clear hb2
            go_wp2_with fail
            go_ret
            exact ⟨rfl, HB2.out⟩

end Go.Proofs.YtlhdafinfgdlkaaGreatDoor
