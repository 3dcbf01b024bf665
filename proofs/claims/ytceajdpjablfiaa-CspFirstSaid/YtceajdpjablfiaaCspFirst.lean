/-
  CspFirst: of directives of one name the first one counts, whatever its case, and each name is there once, in small letters; the law returns true for all texts, and what was there has not turned. No condition.
-/
import Derived.BigRegion
import Derived.BigQuiet
import Derived.Test.YtceajdpjablfiaaProg
import Derived.Test.YtceajdpjablfiaaKit
import Derived.Test.YtceajdpjablfiaaLaw
import Derived.Test.YtceajdpjablfiaaAsc4
import Derived.Test.YtceajdpjablfiaaRow
import Derived.Test.YtceajdpjablfiaaUrl9
import Derived.Test.YtceajdpjablfiaaHdr10
import Derived.Test.YtceajdpjablfiaaHdr17
import Derived.Test.YtceajdpjablfiaaCsp0
import Derived.Test.YtceajdpjablfiaaCsp1
import Derived.Test.YtceajdpjablfiaaCsp3
import Derived.Test.YtceajdpjablfiaaCsp4
import Derived.Test.YtceajdpjablfiaaCsp7
import Derived.Test.YtceajdpjablfiaaCsp8
namespace Go.Proofs.Ytceajdpjablfiaa
open Go.ChangeShapes Go.WideShapes Go.ChangeAt Go.RowKit Go.Proofs
open Go.ChangeMaps (open_string shut_string)

set_option maxRecDepth 100000 in
set_option maxHeartbeats 2000000 in
theorem cspFirst_any (a : ByteArray) (ha : a.size ≤ 140737488351232) (b : ByteArray) (hb : b.size ≤ 140737488351232) (w : World) :
    Calls Try.prog 6 #[.string a, .string b] w fun e w' => e = .returned (.bool true) ∧ Below w.heap.size w w' := by
  have HAW := Lib.hid (fun W => cawake_any W)
  by_cases hlong : 3000 < a.size + b.size
  · have hl : (3000 : Int) < (a.size : Int) + (b.size : Int) := by omega
    have h1 : (a.size : Int) ≤ 140737488351232 := by omega
    have h2 : (b.size : Int) ≤ 140737488351232 := by omega
    clear hlong ha hb
    go_enter Try.func6, Try.ntmps6
    go_wp2_with fail
    refine (HAW.out _).mono ?_
    rintro e w1 ⟨rfl, hb1⟩
    go_wp2_with fail
    go_ret
    exact ⟨rfl, hb1⟩
  · have hl : ¬ (3000 : Int) < (a.size : Int) + (b.size : Int) := by omega
    have has : a.size ≤ 3000 := by omega
    have hbs : b.size ≤ 3000 := by omega
    obtain ⟨S, hS⟩ : ∃ S : ByteArray, S = a ++ ⟨#[59]⟩ ++ b := ⟨_, rfl⟩
    have hSd : S.data.toList = a.data.toList ++ 59 :: b.data.toList := by rw [hS, happ, happ]; simp
    have hSs : S.size ≤ 6001 := by rw [← size_data, hSd, List.length_append, List.length_cons, size_data, size_data]; omega
    have hSS : (a ++ ⟨#[59]⟩ ++ b : ByteArray).size ≤ 6001 := by rw [← hS]; exact hSs
    have hSS1 : (a ++ ⟨#[59]⟩ : ByteArray).size ≤ 6001 := by rw [ByteArray.size_append] at hSS; omega
    obtain ⟨ms, hms⟩ : ∃ ms, ms = cspL a.data.toList := ⟨_, rfl⟩
    obtain ⟨ts, hts⟩ := csp_first a.data.toList b.data.toList
    rw [← hms, ← hSd] at hts
    obtain ⟨ds, hds⟩ : ∃ ds, ds = cspL S.data.toList := ⟨_, rfl⟩
    have hpre : ds.take ms.length = ms := by rw [hds, hts]; simp
    have hle : ms.length ≤ ds.length := by rw [hds, hts, List.length_append]; omega
    have HP1 := Lib.hid (fun W => cparse_any S (by omega) W)
    have HP2 := Lib.hid (fun W => cparse_any a (by omega) W)
    have hg := csp_good S.data.toList
    rw [← hds] at HP1 hg
    rw [← hms] at HP2
    have HG := Lib.hid hg
    have HT : Hid (dirsN ds ≤ 6002) := Lib.hid (by rw [hds]; have := csp_tot S.data.toList; rw [size_data] at this; omega)
    have HTM : Hid (dirsN ms ≤ 5001) := Lib.hid (by rw [hms]; have := csp_tot a.data.toList; rw [size_data] at this; omega)
    have HPRE := Lib.hid hpre
    have HLE := Lib.hid hle
    have HXS : Hid (∀ d ∈ ds, d.cdn.length ≤ 6002) := Lib.hid (fun d hd => by
      have h1 := dirsN_mem hd
      have h2 := HT.out
      unfold dirN at h1
      simp only [llTot] at h1
      omega)
    obtain ⟨n, hn⟩ : ∃ n, n = ds.length := ⟨_, rfl⟩
    obtain ⟨p, hp⟩ : ∃ p, p = ms.length := ⟨_, rfl⟩
    have HNN := Lib.hid hn
    have HPP := Lib.hid hp
    have HNB : Hid (n ≤ 6002) := Lib.hid (by have h1 := dirsN_len ds; have := HT.out; omega)
    have HPN : Hid (p ≤ n) := Lib.hid (by omega)
    clear hlong ha hb hSd hSs hms hts hds hpre hle hg hn hp
    go_enter Try.func6, Try.ntmps6
    go_wp2_with fail
    rw [← hS]
    clear hS hSS hSS1 hl
    refine (HP1.out _).mono ?_
    rintro e w1 ⟨⟨v1, rfl, o1⟩, hb1⟩
    obtain ⟨va, vc, rfl, hhead, hop⟩ := dirs_head o1 HLE.out
    rw [HPRE.out, ← HPP.out] at hhead
    rw [← HPP.out, ← HNN.out] at hop
    have B1 := Lib.hid hb1
    have O1 := Lib.hid (ownD_at o1)
    have HH := Lib.hid hhead
    rw [← HNN.out]
    clear hb1 o1 hhead
    go_wp2_with fail
    refine (HP2.out _).mono ?_
    rintro e w2 ⟨⟨v2, rfl, o2⟩, hb2⟩
    obtain ⟨ma, mc, rfl⟩ := ownD_len o2
    have B2 := Lib.hid (below_then B1.out hb2)
    have O2 := Lib.hid (dirs_below O1.out hb2)
    have HSM := csame_yes ms _ _ w2 (dirs_below HH.out hb2) (ownD_at o2) HTM.out
    rw [← HPP.out] at HSM ⊢
    have HS := Lib.hid HSM
    have hlt : ¬ (n : Int) < (p : Int) := by have := HPN.out; omega
    clear hb2 o2 HSM
    go_wp2_with fail
    refine HS.out.mono ?_
    rintro e w3 ⟨rfl, hb3⟩
    have B3 := Lib.hid (below_then B2.out hb3)
    have O3 := Lib.hid (dirs_below O2.out hb3)
    clear hb3 hop hlt
    go_wp2_with fail
    go_loopw [7] (fun j wr => ∃ k : Nat, k ≤ n ∧ j = .int .i64 k ∧ Hid (Below w3.heap.size w3 wr)) (fun j _ => n - (intOf j).toNat)
    case atStart => exact ⟨0, Nat.zero_le _, rfl, Lib.hid (Below.refl _ _)⟩
    case round =>
      obtain ⟨k, hk, rfl, HW⟩ := hrel
      obtain ⟨w4, hw4⟩ : ∃ w4 : World, w4 = wr := ⟨_, rfl⟩
      subst hw4
      by_cases hlt : k < n
      · obtain ⟨d, hdk⟩ : ∃ d, ds[k]? = some d := ⟨_, List.getElem?_eq_getElem (by rw [← HNN.out]; exact hlt)⟩
        have hall := dirs_below O3.out HW.out
        obtain ⟨bv, ov, cv, hvv, d0, ud, d1, hsd⟩ := dirs_at hall hdk
        injection hvv with e1 e2 e3
        subst e1 e3
        clear e2
        obtain ⟨X, hX⟩ : ∃ X : ByteArray, X.data.toList = d.cdn := ⟨⟨d.cdn.toArray⟩, rfl⟩
        rw [strL_of hX] at d0
        have HALL := Lib.hid hall
        have HD0 := Lib.hid d0
        have hii : (k : Int) < (n : Int) := by omega
        have hi6 : (k : Int) < 6002 := by have := HNB.out; omega
        have HII := Lib.hid (And.intro hii hi6)
        have HKN := Lib.hid hlt
        have HBY : Hid (∀ j (hj : j < X.size), (X[j].toNat < 65 ∨ 90 < X[j].toNat) ∧ X[j].toNat < 128) := Lib.hid (fun j hj => name_byte (HG.out.1 d (List.mem_of_getElem? hdk)) (by
          rw [← hX]
          exact List.mem_of_getElem? (i := j) (by rw [List.getElem?_eq_getElem (by rw [size_data]; exact hj)]; rfl)))
        have hXs : X.size ≤ 6002 := by rw [← size_data, hX]; exact HXS.out d (List.mem_of_getElem? hdk)
        have HXZ := Lib.hid hXs
        have HDK := Lib.hid hdk
        have HXD := Lib.hid hX
        clear d1 hsd hall hlt hk hX hdk hXs
        go_wp2_with fail
        clear hii hi6 d0
        go_loopw [8] (fun j wr => ∃ i : Nat, i ≤ X.size ∧ j = .int .i64 i ∧ wr = w4) (fun j _ => X.size - (intOf j).toNat)
        case atStart => exact ⟨0, Nat.zero_le _, rfl, rfl⟩
        case round =>
          obtain ⟨i, hi9, rfl, hw⟩ := hrel
          subst wr
          have d0 := HD0.out
          have hii := HII.out.1
          have hi6 := HII.out.2
          by_cases hil : i < X.size
          · obtain ⟨hb1, hb2⟩ := HBY.out i hil
            have hix : (i : Int) < (X.size : Int) := by omega
            have hi62 : (i : Int) < 6002 := by have := HXZ.out; omega
            have h128 : ¬ (128 : Int) ≤ (X[i].toNat : Int) := by omega
            by_cases h65 : (65 : Int) ≤ (X[i].toNat : Int)
            · have h90 : ¬ (X[i].toNat : Int) ≤ 90 := by omega
              clear hb1 hb2
              go_wp2_with fail
              go_roundw
              case rel => exact ⟨i + 1, by omega, by go_num, trivial⟩
              case measure => simp [intOf]; omega
            · clear hb1 hb2
              go_wp2_with fail
              go_roundw
              case rel => exact ⟨i + 1, by omega, by go_num, trivial⟩
              case measure => simp [intOf]; omega
          · have hix : ¬ (i : Int) < (X.size : Int) := by omega
            go_wp2_with fail
            clear hii hi6 d0 hix hil hi9
            go_loopw [9] (fun j wr => ∃ i : Nat, i ≤ k ∧ j = .int .i64 i ∧ Hid (∃ q, wr = w4.drewN q)) (fun j _ => k - (intOf j).toNat)
            case atStart => exact ⟨0, Nat.zero_le _, rfl, Lib.hid ⟨0, rfl⟩⟩
            case round =>
              obtain ⟨i, hi9, rfl, HQ⟩ := hrel
              obtain ⟨w5, hw5⟩ : ∃ w5 : World, w5 = wr := ⟨_, rfl⟩
              subst hw5
              have hb5 : Below w4.heap.size w4 w5 := below_draws (Below.refl _ _) HQ.out
              by_cases hil : i < k
              · obtain ⟨e, hei⟩ : ∃ e, ds[i]? = some e := ⟨_, List.getElem?_eq_getElem (by have := HNN.out; have := HKN.out; omega)⟩
                obtain ⟨bx, ox, cx, hvx, x0, ux, x1, hsx⟩ := dirs_at (dirs_below HALL.out hb5) hei
                injection hvx with e1 e2 e3
                injection e1 with e1
                injection e1 with e1 e4 _
                subst e1 e4
                clear e2 e3
                obtain ⟨Y, hY⟩ : ∃ Y : ByteArray, Y.data.toList = e.cdn := ⟨⟨e.cdn.toArray⟩, rfl⟩
                rw [strL_of hY] at x0
                have y := txt_ne (a := Y) (b := X) (by rw [hY, HXD.out]; exact apart_at HG.out.2 hil hei HDK.out)
                have d0 : w5.cell? ⟨bv, ov + k * 2, none⟩ = some (.string X) := cell_stays HD0.out hb5
                have hii := HII.out.1
                have hi6 := HII.out.2
                have hik : (i : Int) < (k : Int) := by omega
                have hin : (i : Int) < (n : Int) := by omega
                have hi62 : (i : Int) < 6002 := by omega
                clear hsx x1 hei hY hb5
                go_wp2_with fail
                go_quiet (fail)
                have HQ2 : Hid (∃ q, w5.drewN nq = w4.drewN q) := Lib.hid (drewN_more HQ.out nq)
                clear x0 d0
                go_wp2_with fail
                go_roundw
                case rel => exact ⟨i + 1, by omega, by go_num, HQ2⟩
                case measure => simp [intOf]; omega
              · have hik : ¬ (i : Int) < (k : Int) := by omega
                have hi6 := HII.out.2
                have HW5 := Lib.hid (below_then HW.out hb5)
                clear hb5 hil hi9
                go_wp2_with fail
                go_roundw
                case rel => exact ⟨k + 1, by have := HKN.out; omega, by omega⟩
                case measure => have := HKN.out; simp [intOf]; omega
      · have HW5 := Lib.hid (below_then B3.out HW.out)
        go_wp2_with fail
        refine (HAW.out _).mono ?_
        rintro e w6 ⟨rfl, hb6⟩
        have B6 := Lib.hid (below_then HW5.out hb6)
        clear hb6
        go_wp2_with fail
        go_ret
        exact ⟨rfl, B6.out⟩

theorem cspFirst_own : ownKnob Try.prog.godebug = none := by kernel_rfl

set_option maxRecDepth 100000 in
theorem cspFirst_lifted (os : Os) (started : os.Started) (H : Type) (enc : TypeId × Value → H) :
    ReturnsInHanded {} Try.checked os 6 .any (Rows.cspFirstSpec.pre6 enc Try.prog Try.f6 Rows.cspFirstRow.domain false) (Rows.cspFirstSpec.post enc Try.prog Try.f6 false true false false) := by
  refine law_lifted (C := Try.checked) cspFirst_own started (by kernel_rfl) Try.func6
    (ChangeSpec.witness6 (enc := enc) (C := Try.checked) false ⟨#[], #[.string ByteArray.empty, .string ByteArray.empty], []⟩ 8 (by kernel_rfl) (by kernel_rfl) (by kernel_rfl) (by kernel_rfl))
    (by kernel_rfl) (of_decide_eq_true (by kernel_rfl)) (tb := 4) (by kernel_rfl) Try.underlying4 rfl (fun ds h => by match ds, h with | [d0, d1], _ => exact ⟨rfl, rfl, rfl⟩) ?_
  intro W base args ds p hval0 hA0 hlt hsz0
  have hval : ∀ (j : Nat) t v, Try.f6.params[j]? = some t → args[j]? = some v → Value.okWide Try.prog W .any base t v := hval0
  have hA : DataW.TrodAll enc Try.prog W 0 (fun _ => true) true Try.f6.params.toList args.toList ds p := hA0
  have hsz : (DataW.weightsEach Try.prog Try.f6.params.toList ds).all (· ≤ reachBytes) = true := hsz0
  rw [Try.params6] at hA hval hsz
  obtain ⟨v0, vs0, d0, ds0, p0, q0, hargs, rfl, rfl, h0, r0⟩ := trodAll_cons hA
  obtain ⟨v1, vs1, d1, ds1, p1, q1, rfl, rfl, rfl, h1, r1⟩ := trodAll_cons r0
  obtain ⟨rfl, rfl, rfl⟩ := trodAll_nil r1
  obtain rfl : args = #[v0, v1] := by cases args; simp_all
  obtain ⟨a0, rfl, rfl, rfl, w0⟩ := open_string Try.underlying9 (hval 0 9 v0 rfl rfl) h0
  have z0 := sized_string hsz (j := 0) rfl rfl
  rw [size_data] at z0
  obtain ⟨a1, rfl, rfl, rfl, w1⟩ := open_string Try.underlying9 (hval 1 9 v1 rfl rfl) h1
  have z1 := sized_string hsz (j := 1) rfl rfl
  rw [size_data] at z1
  exact cspFirst_any (w := W) a0 z0 a1 z1

theorem cspFirst_over : Rows.cspFirstRow.holds Try.pinned (OpenSpec.ofChange Rows.cspFirstSpec) :=
  OpenClaim.holds_of_wide 6 Try.f6 rfl rfl rfl rfl rfl rfl rfl ⟨rfl, rfl, rfl, rfl, rfl⟩ rfl rfl rfl rfl rfl (by kernel_rfl) Try.func6 (by kernel_rfl)
    (of_decide_eq_true (by kernel_rfl)) (by unfold Func.isWrapper; first | (rw [if_pos (by decide +kernel)]; kernel_rfl) | (rw [if_neg (by decide +kernel)]; exact ⟨rfl, rfl⟩))
    (fun os started H enc _ => cspFirst_lifted os started H enc)

theorem cspFirst_proved : Rows.CspFirstSaid := cspFirst_over
#print axioms cspFirst_proved

end Go.Proofs.Ytceajdpjablfiaa
