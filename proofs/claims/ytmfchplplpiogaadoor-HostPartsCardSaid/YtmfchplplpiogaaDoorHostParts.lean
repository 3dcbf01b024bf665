/-
  HostParts: of up to six numbers an address is made just where there are four parts at most, all but the last below 256, the last as great as what is left; the card's statement, its listed tables tied to the program's text. No condition.
-/
import Derived.Stop.LaidErr
import Derived.Deep.DeepHandedRow
import Derived.Deep.RegionHeldLaw
import Derived.BigQuiet
import Derived.Test.YtmfchplplpiogaaDoorCards
import Derived.Test.YtmfchplplpiogaaDoorTie
import Derived.Test.YtmfchplplpiogaaDoorProg
import Derived.Test.YtmfchplplpiogaaDoorKit
import Derived.Test.YtmfchplplpiogaaDoorLaw
import Derived.Test.YtmfchplplpiogaaDoorRow
import Derived.Test.YtmfchplplpiogaaDoorCod5
import Derived.Test.YtmfchplplpiogaaDoorCod7
import Derived.Test.YtmfchplplpiogaaDoorFrm4
import Derived.Test.YtmfchplplpiogaaDoorDsk14
import Derived.Test.YtmfchplplpiogaaDoorDsk20
import Derived.Test.YtmfchplplpiogaaDoorHst0
import Derived.Test.YtmfchplplpiogaaDoorHst1
import Derived.Test.YtmfchplplpiogaaDoorHst2
import Derived.Test.YtmfchplplpiogaaDoorHst3
import Derived.Test.YtmfchplplpiogaaDoorHst5
import Derived.Test.YtmfchplplpiogaaDoorHst6
import Derived.Test.YtmfchplplpiogaaDoorHst7
import Derived.Test.YtmfchplplpiogaaDoorHst8
import Derived.Test.YtmfchplplpiogaaDoorHst9
import Derived.Test.YtmfchplplpiogaaDoorHsu1
import Derived.Test.YtmfchplplpiogaaDoorHsu2
namespace Go.Proofs.YtmfchplplpiogaaDoor
open Go.ChangeShapes Go.WideShapes Go.ChangeAt Go.RowKit Go.Proofs
open Go.ChangeMaps (open_string shut_string)

theorem pow_wrap5i : ∀ m ≤ 4, 1 ≤ m → wrap64 ((2 : Int) ^ (8 * (5 - m))) = ((256 ^ (5 - m) : Nat) : Int) := by
  intro m h1 h2
  rcases (by omega : m = 1 ∨ m = 2 ∨ m = 3 ∨ m = 4) with rfl | rfl | rfl | rfl <;> (unfold wrap64; decide)

set_option maxHeartbeats 4000000 in
set_option maxRecDepth 100000 in
theorem hostParts_any (v : Value) (l : List Int) (w : World) (hp : PickAt w v l) (_hri : RangeI l) (dot : Bool) (hT : Tab10 w) :
    Calls Tryd.prog 8 #[v, .bool dot] w fun e w' => e = .returned (.bool true) ∧ Below w.heap.size w w' := by
  have HT := Lib.hid hT
  clear hT _hri
  obtain ⟨a, c, rfl, _, hpl⟩ := hp
  obtain ⟨m, hm⟩ : ∃ m, l.length = m := ⟨_, rfl⟩
  rw [hm]
  have HM := Lib.hid hm
  by_cases hm1 : m < 1
  · have hz : (m : Int) < 1 := by omega
    clear hm hpl
    go_enter Tryd.func8, Tryd.ntmps8
    go_wp2_with fail
    refine (hawake_any _ HT.out).mono ?_
    rintro e w' ⟨rfl, hb1⟩
    go_wp2
    go_ret
    exact ⟨rfl, hb1⟩
  · by_cases hm6 : 6 < m
    · have hz : ¬ (m : Int) < 1 := by omega
      have hz2 : (6 : Int) < (m : Int) := by omega
      clear hm hpl
      go_enter Tryd.func8, Tryd.ntmps8
      go_wp2_with fail
      refine (hawake_any _ HT.out).mono ?_
      rintro e w' ⟨rfl, hb1⟩
      go_wp2
      go_ret
      exact ⟨rfl, hb1⟩
    · have hz : ¬ (m : Int) < 1 := by omega
      have hz2 : ¬ (6 : Int) < (m : Int) := by omega
      have hln : l ≠ [] := by
        intro h
        rw [h] at hm
        simp at hm
        omega
      obtain ⟨b, off, rfl, hcells⟩ := hpl.resolve_left hln
      have HC := Lib.hid hcells
      have HLN := Lib.hid hln
      obtain ⟨T, hTE⟩ : ∃ T, T = addrP (decs l) := ⟨_, rfl⟩
      have HTE := Lib.hid hTE
      have HLEN : Hid ((decs l).length = m) := Lib.hid (by rw [decs_len, hm])
      have HPW : Hid (m ≤ 4 → wrap64 ((2 : Int) ^ (8 * (5 - m))) = ((256 ^ (5 - m) : Nat) : Int)) := Lib.hid (fun h => pow_wrap5i m h (by omega))
      obtain ⟨ok0, hok0⟩ : ∃ ok0 : Bool, decide ((m : Int) ≤ 4) = ok0 := ⟨_, rfl⟩
      have HOK0 : Hid (OkI (decs l) T m 0 ok0 0) := Lib.hid (by
        by_cases h4 : m ≤ 4
        · refine .inl ⟨by rw [← hok0]; exact decide_eq_true (by omega), h4, 0, rfl, ⟨fun _ => ⟨0, by decide, by simp, ?_⟩, fun h => by omega, by decide⟩⟩
          rw [hTE]
          unfold addrP
          rw [if_pos (by rw [decs_len, hm]; exact h4)]
          simp
        · refine .inr ⟨by rw [← hok0]; exact decide_eq_false (by omega), ?_⟩
          rw [hTE]
          unfold addrP
          rw [if_neg (by rw [decs_len, hm]; exact h4)])
      clear hm hpl hcells hTE hln
      go_enter Tryd.func8, Tryd.ntmps8
      go_wp2_with fail
      go_loopw [5, 6, 7, 8] (fun s ok v i wr => ∃ (k : Nat) (t : ByteArray) (okb : Bool) (vz : Int), k ≤ m ∧ i = .int .i64 k ∧ s = .string t ∧ ok = .bool okb ∧ v = .int .u64 vz ∧ t.size ≤ 100 ∧ Hid (t.size ≤ 13 * k) ∧ Hid (t.data.toList = joinD (decs (l.take k))) ∧ Hid (OkI (decs l) T m k okb vz) ∧ Hid (Below w.heap.size w wr)) (fun _ _ _ i _ => m - (intOf i).toNat)
      case atStart => exact ⟨0, ⟨#[]⟩, ok0, 0, Nat.zero_le _, rfl, rfl, rfl, rfl, by decide, Lib.hid (by decide), Lib.hid rfl, HOK0, Lib.hid (Below.refl _ _)⟩
      case round =>
        clear HOK0 hok0
        obtain ⟨k, t, okb, vz, hk, rfl, rfl, rfl, rfl, htz, HTZ, HTT, HOK, HB⟩ := hrel
        obtain ⟨w1, hw1⟩ : ∃ w1 : World, w1 = wr := ⟨_, rfl⟩
        subst hw1
        by_cases hlt : k < m
        · have hlz : (k : Int) < (m : Int) := by omega
          obtain ⟨x, hx⟩ : ∃ x, l[k]? = some x := ⟨_, List.getElem?_eq_getElem (by rw [HM.out]; exact hlt)⟩
          have hcw := HC.out k x hx
          have hcell := (HB.out.cell (p := ⟨b, off + k, none⟩) (block_of_cell hcw)).trans hcw
          have HX := Lib.hid hx
          clear hcw hx
          by_cases hx0 : x < 0
          · go_wp2_with fail
            refine (hawake_any _ (tab10_below HT.out HB.out)).mono ?_
            rintro e w2 ⟨rfl, hb2⟩
            have HB2 := Lib.hid (below_then HB.out hb2)
            go_wp2
            go_ret
            exact ⟨rfl, HB2.out⟩
          · by_cases hx1 : 8589934592 < x
            · go_wp2_with fail
              refine (hawake_any _ (tab10_below HT.out HB.out)).mono ?_
              rintro e w2 ⟨rfl, hb2⟩
              have HB2 := Lib.hid (below_then HB.out hb2)
              go_wp2
              go_ret
              exact ⟨rfl, HB2.out⟩
            · obtain ⟨n, hn⟩ : ∃ n : Nat, x = (n : Int) := ⟨x.toNat, by omega⟩
              have hxb : 0 ≤ x ∧ x ≤ 8589934592 := by omega
              have HXN := Lib.hid hn
              have hnt : x.toNat = n := by omega
              have HNUM : Hid (numP (digs 10 x.toNat) = some n) := Lib.hid (by rw [hnt]; exact num_dec n)
              obtain ⟨y, hy⟩ : ∃ y : ByteArray, y = ⟨(digs 10 n).toArray⟩ := ⟨_, rfl⟩
              have HDG := Lib.hid (fun W => ldigits_any n (by omega) W)
              rw [← hy, ← hn] at HDG
              have hys : y.size ≤ 12 := by rw [hy, mk_size]; exact digs_size n (by omega)
              have hyl : y.data.toList = digs 10 n := by rw [hy]
              have HSN := Lib.hid (decs_snoc HX.out)
              rw [hnt] at HSN
              clear hn hnt hy
              by_cases hk0 : 0 < k
              · have hk0z : (0 : Int) < (k : Int) := by omega
                have hc1 : ¬ 9223372036854775807 < t.size + 1 := by omega
                have hc2 : ¬ 9223372036854775807 < t.size + 1 + y.size := by omega
                have HTX : Hid ((t ++ (⟨#[46]⟩ : ByteArray) ++ y).data.toList = joinD (decs (l.take (k + 1)))) := Lib.hid (by
                  rw [mk_app, mk_app, HTT.out, HSN.out, joinD_snoc _ _ (by intro h; have h2 := congrArg List.length h; rw [decs_len, List.length_take, HM.out, List.length_nil] at h2; omega), hyl]
                  simp)
                have SZ : Hid ((t ++ (⟨#[46]⟩ : ByteArray) ++ y).size ≤ 13 * (k + 1)) := Lib.hid (by rw [ByteArray.size_append, ByteArray.size_append]; have := HTZ.out; have : (⟨#[46]⟩ : ByteArray).size = 1 := rfl; omega)
                clear hyl
                by_cases h4 : m ≤ 4
                · have h4z : ¬ (4 : Int) < (m : Int) := by omega
                  by_cases hk1 : k + 1 < m
                  · have hk1z : (k : Int) + 1 < (m : Int) := by omega
                    rcases HOK.out with ⟨rfl, _, N, hvN, hI⟩ | ⟨rfl, hno⟩
                    · have HVN := Lib.hid hvN
                      have hN32 := hI.2.2
                      have hvz : 0 ≤ vz ∧ vz < 4294967296 := by omega
                      by_cases h255 : x ≤ 255
                      · have hn255 : n ≤ 255 := by have := HXN.out; omega
                        have HNX := Lib.hid (numI_next hI HLEN.out hk1 h4 (decs_at HX.out) HNUM.out hn255)
                        obtain ⟨hsh1, hsh2⟩ := shift_fits n k hn255
                        rw [← HXN.out] at hsh1
                        obtain ⟨S, hS⟩ : ∃ S : Int, S = ((n * 256 ^ (3 - k) : Nat) : Int) := ⟨_, rfl⟩
                        rw [← hS] at hsh1
                        have hS0 : 0 ≤ S ∧ S < 4294967296 := by omega
                        have HVS : Hid (vz + S = ((N + n * 256 ^ (3 - k) : Nat) : Int)) := Lib.hid (by rw [hS, hvN]; omega)
                        clear hS hsh2 hvN hI hN32
                        go_wp2_with fail
                        refine (HDG.out _).mono ?_
                        rintro e w2 ⟨rfl, hb2⟩
                        have c2 := (hb2.cell (p := ⟨b, off + k, none⟩) (block_of_cell hcell)).trans hcell
                        have HB2 := Lib.hid (below_then HB.out hb2)
                        clear hb2
                        go_wp2_with fail
                        go_roundw
                        case rel => exact ⟨k + 1, t ++ (⟨#[46]⟩ : ByteArray) ++ y, true, _, by omega, by go_num, rfl, by first | rfl | exact congrArg Value.bool (decide_eq_true (by omega)) | exact congrArg Value.bool (decide_eq_false (by omega)), rfl, by have := SZ.out; omega, SZ, HTX, Lib.hid (.inl ⟨rfl, h4, _, by first | exact HVS.out | (rw [HVS.out]), HNX.out⟩), HB2⟩
                        case measure => simp [intOf]; omega
                      · have HNO := Lib.hid (numI_big hI HLEN.out hk1 (decs_at HX.out) HNUM.out (by have := HXN.out; omega))
                        clear hvN hI hN32
                        go_wp2_with fail
                        refine (HDG.out _).mono ?_
                        rintro e w2 ⟨rfl, hb2⟩
                        have c2 := (hb2.cell (p := ⟨b, off + k, none⟩) (block_of_cell hcell)).trans hcell
                        have HB2 := Lib.hid (below_then HB.out hb2)
                        clear hb2
                        go_wp2_with fail
                        go_roundw
                        case rel => exact ⟨k + 1, t ++ (⟨#[46]⟩ : ByteArray) ++ y, false, _, by omega, by go_num, rfl, by first | rfl | exact congrArg Value.bool (decide_eq_true (by omega)) | exact congrArg Value.bool (decide_eq_false (by omega)), rfl, by have := SZ.out; omega, SZ, HTX, Lib.hid (.inr ⟨rfl, HNO.out⟩), HB2⟩
                        case measure => simp [intOf]; omega
                    · have HNO := Lib.hid hno
                      go_wp2_with fail
                      refine (HDG.out _).mono ?_
                      rintro e w2 ⟨rfl, hb2⟩
                      have c2 := (hb2.cell (p := ⟨b, off + k, none⟩) (block_of_cell hcell)).trans hcell
                      have HB2 := Lib.hid (below_then HB.out hb2)
                      clear hb2
                      go_wp2_with fail
                      go_roundw
                      case rel => exact ⟨k + 1, t ++ (⟨#[46]⟩ : ByteArray) ++ y, false, _, by omega, by go_num, rfl, by first | rfl | exact congrArg Value.bool (decide_eq_true (by omega)) | exact congrArg Value.bool (decide_eq_false (by omega)), rfl, by have := SZ.out; omega, SZ, HTX, Lib.hid (.inr ⟨rfl, HNO.out⟩), HB2⟩
                      case measure => simp [intOf]; omega
                  · have hk1z : ¬ (k : Int) + 1 < (m : Int) := by omega
                    have hk1e : k + 1 = m := by omega
                    have hpw := HPW.out h4
                    obtain ⟨L, hL⟩ : ∃ L : Int, L = ((256 ^ (5 - m) : Nat) : Int) := ⟨_, rfl⟩
                    rw [← hL] at hpw
                    have HL := Lib.hid hL
                    clear hL
                    rcases HOK.out with ⟨rfl, _, N, hvN, hI⟩ | ⟨rfl, hno⟩
                    · have HVN := Lib.hid hvN
                      have hN32 := hI.2.2
                      have hvz : 0 ≤ vz ∧ vz < 4294967296 := by omega
                      by_cases hbig : x < L
                      · have HNX := Lib.hid (numI_end hI HLEN.out hk1e h4 (decs_at HX.out) HNUM.out (by have := HXN.out; have := HL.out; omega))
                        have HVS : Hid (vz + x = ((N + n : Nat) : Int)) := Lib.hid (by rw [HXN.out, hvN]; omega)
                        clear hvN hI hN32
                        go_wp2_with fail
                        refine (HDG.out _).mono ?_
                        rintro e w2 ⟨rfl, hb2⟩
                        have c2 := (hb2.cell (p := ⟨b, off + k, none⟩) (block_of_cell hcell)).trans hcell
                        have HB2 := Lib.hid (below_then HB.out hb2)
                        clear hb2
                        go_wp2_with fail
                        go_quiet (fail)
                        go_wp2_with fail
                        go_roundw
                        case rel => exact ⟨k + 1, t ++ (⟨#[46]⟩ : ByteArray) ++ y, true, _, by omega, by go_num, rfl, by first | rfl | exact congrArg Value.bool (decide_eq_true (by omega)) | exact congrArg Value.bool (decide_eq_false (by omega)), rfl, by have := SZ.out; omega, SZ, HTX, Lib.hid (.inl ⟨rfl, h4, _, by first | exact HVS.out | (rw [HVS.out]), HNX.out⟩), Lib.hid (below_draws HB2.out ⟨_, rfl⟩)⟩
                        case measure => simp [intOf]; omega
                      · have HNO := Lib.hid (numI_last hI HLEN.out hk1e (decs_at HX.out) HNUM.out (by have := HXN.out; have := HL.out; omega))
                        clear hvN hI hN32
                        go_wp2_with fail
                        refine (HDG.out _).mono ?_
                        rintro e w2 ⟨rfl, hb2⟩
                        have c2 := (hb2.cell (p := ⟨b, off + k, none⟩) (block_of_cell hcell)).trans hcell
                        have HB2 := Lib.hid (below_then HB.out hb2)
                        clear hb2
                        go_wp2_with fail
                        go_quiet (fail)
                        go_wp2_with fail
                        go_roundw
                        case rel => exact ⟨k + 1, t ++ (⟨#[46]⟩ : ByteArray) ++ y, false, _, by omega, by go_num, rfl, by first | rfl | exact congrArg Value.bool (decide_eq_true (by omega)) | exact congrArg Value.bool (decide_eq_false (by omega)), rfl, by have := SZ.out; omega, SZ, HTX, Lib.hid (.inr ⟨rfl, HNO.out⟩), Lib.hid (below_draws HB2.out ⟨_, rfl⟩)⟩
                        case measure => simp [intOf]; omega
                    · have HNO := Lib.hid hno
                      go_wp2_with fail
                      refine (HDG.out _).mono ?_
                      rintro e w2 ⟨rfl, hb2⟩
                      have c2 := (hb2.cell (p := ⟨b, off + k, none⟩) (block_of_cell hcell)).trans hcell
                      have HB2 := Lib.hid (below_then HB.out hb2)
                      clear hb2
                      go_wp2_with fail
                      go_quiet (fail)
                      go_wp2_with fail
                      go_roundw
                      case rel => exact ⟨k + 1, t ++ (⟨#[46]⟩ : ByteArray) ++ y, false, _, by omega, by go_num, rfl, by first | rfl | exact congrArg Value.bool (decide_eq_true (by omega)) | exact congrArg Value.bool (decide_eq_false (by omega)), rfl, by have := SZ.out; omega, SZ, HTX, Lib.hid (.inr ⟨rfl, HNO.out⟩), Lib.hid (below_draws HB2.out ⟨_, rfl⟩)⟩
                      case measure => simp [intOf]; omega
                · have h4z : (4 : Int) < (m : Int) := by omega
                  rcases HOK.out with ⟨_, h, _⟩ | ⟨rfl, hno⟩
                  · exact absurd h h4
                  · have HNO := Lib.hid hno
                    go_wp2_with fail
                    refine (HDG.out _).mono ?_
                    rintro e w2 ⟨rfl, hb2⟩
                    have c2 := (hb2.cell (p := ⟨b, off + k, none⟩) (block_of_cell hcell)).trans hcell
                    have HB2 := Lib.hid (below_then HB.out hb2)
                    clear hb2
                    go_wp2_with fail
                    go_roundw
                    case rel => exact ⟨k + 1, t ++ (⟨#[46]⟩ : ByteArray) ++ y, false, vz, by omega, by go_num, rfl, by first | rfl | exact congrArg Value.bool (decide_eq_true (by omega)) | exact congrArg Value.bool (decide_eq_false (by omega)), rfl, by have := SZ.out; omega, SZ, HTX, Lib.hid (.inr ⟨rfl, HNO.out⟩), HB2⟩
                    case measure => simp [intOf]; omega
              · have hk0z : ¬ (0 : Int) < (k : Int) := by omega
                have hc1 : ¬ 9223372036854775807 < t.size + y.size := by omega
                have HTX : Hid ((t ++ y).data.toList = joinD (decs (l.take (k + 1)))) := Lib.hid (by
                  rw [mk_app, HTT.out, HSN.out, show k = 0 from by omega, hyl]
                  rfl)
                have SZ : Hid ((t ++ y).size ≤ 13 * (k + 1)) := Lib.hid (by rw [ByteArray.size_append]; have := HTZ.out; omega)
                clear hyl
                by_cases h4 : m ≤ 4
                · have h4z : ¬ (4 : Int) < (m : Int) := by omega
                  by_cases hk1 : k + 1 < m
                  · have hk1z : (k : Int) + 1 < (m : Int) := by omega
                    rcases HOK.out with ⟨rfl, _, N, hvN, hI⟩ | ⟨rfl, hno⟩
                    · have HVN := Lib.hid hvN
                      have hN32 := hI.2.2
                      have hvz : 0 ≤ vz ∧ vz < 4294967296 := by omega
                      by_cases h255 : x ≤ 255
                      · have hn255 : n ≤ 255 := by have := HXN.out; omega
                        have HNX := Lib.hid (numI_next hI HLEN.out hk1 h4 (decs_at HX.out) HNUM.out hn255)
                        obtain ⟨hsh1, hsh2⟩ := shift_fits n k hn255
                        rw [← HXN.out] at hsh1
                        obtain ⟨S, hS⟩ : ∃ S : Int, S = ((n * 256 ^ (3 - k) : Nat) : Int) := ⟨_, rfl⟩
                        rw [← hS] at hsh1
                        have hS0 : 0 ≤ S ∧ S < 4294967296 := by omega
                        have HVS : Hid (vz + S = ((N + n * 256 ^ (3 - k) : Nat) : Int)) := Lib.hid (by rw [hS, hvN]; omega)
                        clear hS hsh2 hvN hI hN32
                        go_wp2_with fail
                        refine (HDG.out _).mono ?_
                        rintro e w2 ⟨rfl, hb2⟩
                        have c2 := (hb2.cell (p := ⟨b, off + k, none⟩) (block_of_cell hcell)).trans hcell
                        have HB2 := Lib.hid (below_then HB.out hb2)
                        clear hb2
                        go_wp2_with fail
                        go_roundw
                        case rel => exact ⟨k + 1, t ++ y, true, _, by omega, by go_num, rfl, by first | rfl | exact congrArg Value.bool (decide_eq_true (by omega)) | exact congrArg Value.bool (decide_eq_false (by omega)), rfl, by have := SZ.out; omega, SZ, HTX, Lib.hid (.inl ⟨rfl, h4, _, by first | exact HVS.out | (rw [HVS.out]), HNX.out⟩), HB2⟩
                        case measure => simp [intOf]; omega
                      · have HNO := Lib.hid (numI_big hI HLEN.out hk1 (decs_at HX.out) HNUM.out (by have := HXN.out; omega))
                        clear hvN hI hN32
                        go_wp2_with fail
                        refine (HDG.out _).mono ?_
                        rintro e w2 ⟨rfl, hb2⟩
                        have c2 := (hb2.cell (p := ⟨b, off + k, none⟩) (block_of_cell hcell)).trans hcell
                        have HB2 := Lib.hid (below_then HB.out hb2)
                        clear hb2
                        go_wp2_with fail
                        go_roundw
                        case rel => exact ⟨k + 1, t ++ y, false, _, by omega, by go_num, rfl, by first | rfl | exact congrArg Value.bool (decide_eq_true (by omega)) | exact congrArg Value.bool (decide_eq_false (by omega)), rfl, by have := SZ.out; omega, SZ, HTX, Lib.hid (.inr ⟨rfl, HNO.out⟩), HB2⟩
                        case measure => simp [intOf]; omega
                    · have HNO := Lib.hid hno
                      go_wp2_with fail
                      refine (HDG.out _).mono ?_
                      rintro e w2 ⟨rfl, hb2⟩
                      have c2 := (hb2.cell (p := ⟨b, off + k, none⟩) (block_of_cell hcell)).trans hcell
                      have HB2 := Lib.hid (below_then HB.out hb2)
                      clear hb2
                      go_wp2_with fail
                      go_roundw
                      case rel => exact ⟨k + 1, t ++ y, false, _, by omega, by go_num, rfl, by first | rfl | exact congrArg Value.bool (decide_eq_true (by omega)) | exact congrArg Value.bool (decide_eq_false (by omega)), rfl, by have := SZ.out; omega, SZ, HTX, Lib.hid (.inr ⟨rfl, HNO.out⟩), HB2⟩
                      case measure => simp [intOf]; omega
                  · have hk1z : ¬ (k : Int) + 1 < (m : Int) := by omega
                    have hk1e : k + 1 = m := by omega
                    have hpw := HPW.out h4
                    obtain ⟨L, hL⟩ : ∃ L : Int, L = ((256 ^ (5 - m) : Nat) : Int) := ⟨_, rfl⟩
                    rw [← hL] at hpw
                    have HL := Lib.hid hL
                    clear hL
                    rcases HOK.out with ⟨rfl, _, N, hvN, hI⟩ | ⟨rfl, hno⟩
                    · have HVN := Lib.hid hvN
                      have hN32 := hI.2.2
                      have hvz : 0 ≤ vz ∧ vz < 4294967296 := by omega
                      by_cases hbig : x < L
                      · have HNX := Lib.hid (numI_end hI HLEN.out hk1e h4 (decs_at HX.out) HNUM.out (by have := HXN.out; have := HL.out; omega))
                        have HVS : Hid (vz + x = ((N + n : Nat) : Int)) := Lib.hid (by rw [HXN.out, hvN]; omega)
                        clear hvN hI hN32
                        go_wp2_with fail
                        refine (HDG.out _).mono ?_
                        rintro e w2 ⟨rfl, hb2⟩
                        have c2 := (hb2.cell (p := ⟨b, off + k, none⟩) (block_of_cell hcell)).trans hcell
                        have HB2 := Lib.hid (below_then HB.out hb2)
                        clear hb2
                        go_wp2_with fail
                        go_quiet (fail)
                        go_wp2_with fail
                        go_roundw
                        case rel => exact ⟨k + 1, t ++ y, true, _, by omega, by go_num, rfl, by first | rfl | exact congrArg Value.bool (decide_eq_true (by omega)) | exact congrArg Value.bool (decide_eq_false (by omega)), rfl, by have := SZ.out; omega, SZ, HTX, Lib.hid (.inl ⟨rfl, h4, _, by first | exact HVS.out | (rw [HVS.out]), HNX.out⟩), Lib.hid (below_draws HB2.out ⟨_, rfl⟩)⟩
                        case measure => simp [intOf]; omega
                      · have HNO := Lib.hid (numI_last hI HLEN.out hk1e (decs_at HX.out) HNUM.out (by have := HXN.out; have := HL.out; omega))
                        clear hvN hI hN32
                        go_wp2_with fail
                        refine (HDG.out _).mono ?_
                        rintro e w2 ⟨rfl, hb2⟩
                        have c2 := (hb2.cell (p := ⟨b, off + k, none⟩) (block_of_cell hcell)).trans hcell
                        have HB2 := Lib.hid (below_then HB.out hb2)
                        clear hb2
                        go_wp2_with fail
                        go_quiet (fail)
                        go_wp2_with fail
                        go_roundw
                        case rel => exact ⟨k + 1, t ++ y, false, _, by omega, by go_num, rfl, by first | rfl | exact congrArg Value.bool (decide_eq_true (by omega)) | exact congrArg Value.bool (decide_eq_false (by omega)), rfl, by have := SZ.out; omega, SZ, HTX, Lib.hid (.inr ⟨rfl, HNO.out⟩), Lib.hid (below_draws HB2.out ⟨_, rfl⟩)⟩
                        case measure => simp [intOf]; omega
                    · have HNO := Lib.hid hno
                      go_wp2_with fail
                      refine (HDG.out _).mono ?_
                      rintro e w2 ⟨rfl, hb2⟩
                      have c2 := (hb2.cell (p := ⟨b, off + k, none⟩) (block_of_cell hcell)).trans hcell
                      have HB2 := Lib.hid (below_then HB.out hb2)
                      clear hb2
                      go_wp2_with fail
                      go_quiet (fail)
                      go_wp2_with fail
                      go_roundw
                      case rel => exact ⟨k + 1, t ++ y, false, _, by omega, by go_num, rfl, by first | rfl | exact congrArg Value.bool (decide_eq_true (by omega)) | exact congrArg Value.bool (decide_eq_false (by omega)), rfl, by have := SZ.out; omega, SZ, HTX, Lib.hid (.inr ⟨rfl, HNO.out⟩), Lib.hid (below_draws HB2.out ⟨_, rfl⟩)⟩
                      case measure => simp [intOf]; omega
                · have h4z : (4 : Int) < (m : Int) := by omega
                  rcases HOK.out with ⟨_, h, _⟩ | ⟨rfl, hno⟩
                  · exact absurd h h4
                  · have HNO := Lib.hid hno
                    go_wp2_with fail
                    refine (HDG.out _).mono ?_
                    rintro e w2 ⟨rfl, hb2⟩
                    have c2 := (hb2.cell (p := ⟨b, off + k, none⟩) (block_of_cell hcell)).trans hcell
                    have HB2 := Lib.hid (below_then HB.out hb2)
                    clear hb2
                    go_wp2_with fail
                    go_roundw
                    case rel => exact ⟨k + 1, t ++ y, false, vz, by omega, by go_num, rfl, by first | rfl | exact congrArg Value.bool (decide_eq_true (by omega)) | exact congrArg Value.bool (decide_eq_false (by omega)), rfl, by have := SZ.out; omega, SZ, HTX, Lib.hid (.inr ⟨rfl, HNO.out⟩), HB2⟩
                    case measure => simp [intOf]; omega
        · have hlz : ¬ (k : Int) < (m : Int) := by omega
          have hkm : k = m := by omega
          have hc1 : ¬ 9223372036854775807 < t.size + 1 := by omega
          cases dot
          · obtain ⟨U, hU⟩ : ∃ U : ByteArray, U = t := ⟨_, rfl⟩
            have hUl : U.data.toList = partsT l false := by rw [hU, HTT.out, hkm, List.take_of_length_le (by rw [HM.out]; exact Nat.le_refl _)]; simp [partsT]
            have hUs : U.size ≤ 200 := by rw [hU]; omega
            have CN' := fun W => hnumber_any U (by omega) W
            have CP' := fun W (hT : Tab10 W) => hparse_any U (by omega) W hT
            rw [hUl, partsT_number l HLN.out, ← HTE.out] at CN'
            rw [hUl, partsT_host l HLN.out, partsT_number l HLN.out, ← HTE.out] at CP'
            clear hUl hUs
            rcases HOK.out with ⟨rfl, _, N, hvN, hI⟩ | ⟨rfl, hno⟩
            · have hTN := hI.2.1 hkm
              have hN32 := hI.2.2
              have CN : Hid (∀ W, Calls Tryd.prog 14 #[.string U] W fun e w' => e = .returned (.tuple #[.int .u32 vz, .bool true]) ∧ Below W.heap.size W w') := Lib.hid (by rw [hTN] at CN'; rw [hvN]; exact CN')
              obtain ⟨X, hX⟩ : ∃ X : ByteArray, X = hostB (T.map textL) := ⟨_, rfl⟩
              have CP : Hid (∀ W, Tab10 W → Calls Tryd.prog 10 #[.string U] W fun e w' => e = .returned (.tuple #[.string X, .int .i64 0]) ∧ Below W.heap.size W w') := Lib.hid (by rw [hX]; rw [hTN] at CP' ⊢; exact CP')
              have hvz : 0 ≤ vz ∧ vz < 4294967296 := by omega
              have hvv : (vz == vz) = true := beq_self_eq_true _
              clear CN' CP' hTN hN32 hvN hI hX
              subst hU
              go_wp2_with fail
              refine (CN.out _).mono ?_
              rintro e w2 ⟨rfl, hb2⟩
              have HB2 := Lib.hid (below_then HB.out hb2)
              clear hb2
              go_wp2_with fail
              refine (CP.out _ (tab10_below HT.out HB2.out)).mono ?_
              rintro e w3 ⟨rfl, hb3⟩
              have HB3 := Lib.hid (below_then HB2.out hb3)
              clear hb3
              go_wp2_with fail
              refine (hawake_any _ (tab10_below HT.out HB3.out)).mono ?_
              rintro e w4 ⟨rfl, hb4⟩
              have HB4 := Lib.hid (below_then HB3.out hb4)
              clear hb4
              go_wp2
              go_ret
              exact ⟨rfl, HB4.out⟩
            · have CN : Hid (∀ W, Calls Tryd.prog 14 #[.string U] W fun e w' => e = .returned (.tuple #[.int .u32 0, .bool false]) ∧ Below W.heap.size W w') := Lib.hid (by rw [hno] at CN'; exact CN')
              have CP : Hid (∀ W, Tab10 W → Calls Tryd.prog 10 #[.string U] W fun e w' => e = .returned (.tuple #[.string ByteArray.empty, .int .i64 8]) ∧ Below W.heap.size W w') := Lib.hid (by rw [hno] at CP'; exact CP')
              clear CN' CP' hno
              subst hU
              go_wp2_with fail
              refine (CN.out _).mono ?_
              rintro e w2 ⟨rfl, hb2⟩
              have HB2 := Lib.hid (below_then HB.out hb2)
              clear hb2
              go_wp2_with fail
              refine (CP.out _ (tab10_below HT.out HB2.out)).mono ?_
              rintro e w3 ⟨rfl, hb3⟩
              have HB3 := Lib.hid (below_then HB2.out hb3)
              clear hb3
              go_wp2_with fail
              refine (hawake_any _ (tab10_below HT.out HB3.out)).mono ?_
              rintro e w4 ⟨rfl, hb4⟩
              have HB4 := Lib.hid (below_then HB3.out hb4)
              clear hb4
              go_wp2
              go_ret
              exact ⟨rfl, HB4.out⟩
          · obtain ⟨U, hU⟩ : ∃ U : ByteArray, U = t ++ (⟨#[46]⟩ : ByteArray) := ⟨_, rfl⟩
            have hUl : U.data.toList = partsT l true := by rw [hU, mk_app, HTT.out, hkm, List.take_of_length_le (by rw [HM.out]; exact Nat.le_refl _)]; rfl
            have hUs : U.size ≤ 200 := by rw [hU]; rw [ByteArray.size_append]; have : (⟨#[46]⟩ : ByteArray).size = 1 := rfl; omega
            have CN' := fun W => hnumber_any U (by omega) W
            have CP' := fun W (hT : Tab10 W) => hparse_any U (by omega) W hT
            rw [hUl, partsT_number l HLN.out, ← HTE.out] at CN'
            rw [hUl, partsT_host l HLN.out, partsT_number l HLN.out, ← HTE.out] at CP'
            clear hUl hUs
            rcases HOK.out with ⟨rfl, _, N, hvN, hI⟩ | ⟨rfl, hno⟩
            · have hTN := hI.2.1 hkm
              have hN32 := hI.2.2
              have CN : Hid (∀ W, Calls Tryd.prog 14 #[.string U] W fun e w' => e = .returned (.tuple #[.int .u32 vz, .bool true]) ∧ Below W.heap.size W w') := Lib.hid (by rw [hTN] at CN'; rw [hvN]; exact CN')
              obtain ⟨X, hX⟩ : ∃ X : ByteArray, X = hostB (T.map textL) := ⟨_, rfl⟩
              have CP : Hid (∀ W, Tab10 W → Calls Tryd.prog 10 #[.string U] W fun e w' => e = .returned (.tuple #[.string X, .int .i64 0]) ∧ Below W.heap.size W w') := Lib.hid (by rw [hX]; rw [hTN] at CP' ⊢; exact CP')
              have hvz : 0 ≤ vz ∧ vz < 4294967296 := by omega
              have hvv : (vz == vz) = true := beq_self_eq_true _
              clear CN' CP' hTN hN32 hvN hI hX
              have hU2 : t ++ (⟨#[46]⟩ : ByteArray) = U := hU.symm
              clear hU
              go_wp2_with fail
              refine (CN.out _).mono ?_
              rintro e w2 ⟨rfl, hb2⟩
              have HB2 := Lib.hid (below_then HB.out hb2)
              clear hb2
              go_wp2_with fail
              refine (CP.out _ (tab10_below HT.out HB2.out)).mono ?_
              rintro e w3 ⟨rfl, hb3⟩
              have HB3 := Lib.hid (below_then HB2.out hb3)
              clear hb3
              go_wp2_with fail
              refine (hawake_any _ (tab10_below HT.out HB3.out)).mono ?_
              rintro e w4 ⟨rfl, hb4⟩
              have HB4 := Lib.hid (below_then HB3.out hb4)
              clear hb4
              go_wp2
              go_ret
              exact ⟨rfl, HB4.out⟩
            · have CN : Hid (∀ W, Calls Tryd.prog 14 #[.string U] W fun e w' => e = .returned (.tuple #[.int .u32 0, .bool false]) ∧ Below W.heap.size W w') := Lib.hid (by rw [hno] at CN'; exact CN')
              have CP : Hid (∀ W, Tab10 W → Calls Tryd.prog 10 #[.string U] W fun e w' => e = .returned (.tuple #[.string ByteArray.empty, .int .i64 8]) ∧ Below W.heap.size W w') := Lib.hid (by rw [hno] at CP'; exact CP')
              clear CN' CP' hno
              have hU2 : t ++ (⟨#[46]⟩ : ByteArray) = U := hU.symm
              clear hU
              go_wp2_with fail
              refine (CN.out _).mono ?_
              rintro e w2 ⟨rfl, hb2⟩
              have HB2 := Lib.hid (below_then HB.out hb2)
              clear hb2
              go_wp2_with fail
              refine (CP.out _ (tab10_below HT.out HB2.out)).mono ?_
              rintro e w3 ⟨rfl, hb3⟩
              have HB3 := Lib.hid (below_then HB2.out hb3)
              clear hb3
              go_wp2_with fail
              refine (hawake_any _ (tab10_below HT.out HB3.out)).mono ?_
              rintro e w4 ⟨rfl, hb4⟩
              have HB4 := Lib.hid (below_then HB3.out hb4)
              clear hb4
              go_wp2
              go_ret
              exact ⟨rfl, HB4.out⟩

theorem hostParts_own : ownKnob Tryd.prog.godebug = none := by kernel_rfl

theorem hostParts_contract (H : Type) (enc : TypeId × Value → H) (W : World) (base : Nat) (args : Array Value) (ds gs : List (DataW H)) (before : List MemPlace)
    (hval0 : ∀ (j : Nat) t v, Tryd.f8.params[j]? = some t → args[j]? = some v → Value.okWide Tryd.prog W .any base t v)
    (hW : DataW.Whole enc Tryd.prog Tryd.f8.params.toList Rows.hostPartsSpec.vars false W args.toList ds gs before) {vt : List TypeId}
    (hsz0 : (DataW.weightsEach Tryd.prog (Tryd.f8.params.toList ++ vt) (ds ++ gs)).all (· ≤ reachBytes) = true) (hL : laidMetH Tryd.prog Rows.hostPartsRow.laid W) :
    Calls Tryd.prog 8 args W fun e W' => ∃ v, e = .returned v ∧ Rows.hostPartsSpec.post enc Tryd.prog Tryd.f8 false true false false W args v W' := by
  refine law_contract (by kernel_rfl) (of_decide_eq_true (by kernel_rfl)) (tb := 4) (by kernel_rfl) Tryd.underlying4 rfl (fun ds h => by match ds, h with | [d0, d1], _ => exact ⟨rfl, rfl, rfl⟩) hW hsz0 ?_
  intro p hA0 hlt hszz
  have hval := hval0
  have hA : DataW.TrodAll enc Tryd.prog W 0 (fun _ => true) true Tryd.f8.params.toList args.toList ds p := hA0
  have hsz : (DataW.weightsEach Tryd.prog Tryd.f8.params.toList ds).all (· ≤ reachBytes) = true := hszz
  clear hval0 hA0 hszz hsz0 hW
  rw [Tryd.params8] at hA hval hsz
  obtain ⟨v0, vs0, d0, ds0, p0, q0, hargs, rfl, rfl, h0, r0⟩ := trodAll_cons hA
  obtain ⟨v1, vs1, d1, ds1, p1, q1, rfl, rfl, rfl, h1, r1⟩ := trodAll_cons r0
  obtain ⟨rfl, rfl, rfl⟩ := trodAll_nil r1
  obtain rfl : args = #[v0, v1] := by cases args; simp_all
  have s0 := sized_at hsz (j := 0) (t := 40) (d := d0) rfl rfl
  obtain ⟨a0, g0, z0⟩ := open_picks Tryd.underlying40 Tryd.underlying3 (by kernel_rfl) (by kernel_rfl) (hval 0 40 v0 rfl rfl) h0 s0
  obtain ⟨a1, rfl, rfl, rfl⟩ := open_bool Tryd.underlying4 (hval 1 4 v1 rfl rfl) h1
  exact hostParts_any (w := W) v0 a0 g0 z0 a1 (tab10_of hL)

noncomputable def hostParts_world (os : Os) : World := laidIn Tryd.prog Rows.hostPartsRow.laid (World.holding Tryd.prog os ⟨#[], #[], []⟩)

theorem hostParts_met (os : Os) : laidMet Tryd.prog Rows.hostPartsRow.laid ((hostParts_world os).forCall (fun _ _ => 0) ⟨#[], #[.slice none 0 0, .bool false], []⟩).memory :=
  laidMet_of_run' 8 (by kernel_rfl) (by kernel_rfl)

theorem hostParts_reads (os : Os) {H : Type} (enc : TypeId × Value → H) : ∃ places, DataW.whole enc Tryd.prog ((hostParts_world os).forCall (fun _ _ => 0) ⟨#[], #[.slice none 0 0, .bool false], []⟩).memory Tryd.f8.params.toList Rows.hostPartsSpec.vars false (#[.slice none 0 0, .bool false] : Array Value).toList 8 = some ([.nil, .lit (.bool false)], [], places) :=
  ⟨[], by kernel_rfl⟩

set_option maxRecDepth 100000 in
theorem hostParts_lifted (os : Os) (started : os.Started) (H : Type) (enc : TypeId × Value → H) (F : Stop.Interp) :
    ReturnsInHanded {} Tryd.checked os 8 .any ((OpenSpec.ofChange Rows.hostPartsSpec).preRow enc Tryd.prog Tryd.f8 Rows.hostPartsRow.domain false Rows.hostPartsRow.laid) (((OpenSpec.ofChange Rows.hostPartsSpec).at F).post enc Tryd.prog Tryd.f8 false true false false) := by
  obtain ⟨places, hx⟩ := hostParts_reads os enc
  refine returnsInHanded_of_row (C := Tryd.checked) (s := OpenSpec.ofChange Rows.hostPartsSpec) hostParts_own started (by kernel_rfl) Tryd.func8
    (witness_row_at (enc := enc) (C := Tryd.checked) false (hostParts_world os) #[.slice none 0 0, .bool false] rfl (by kernel_rfl) (by kernel_rfl) (by kernel_rfl)
      (OpenSpec.preRow_of_cond 8 hx (by kernel_rfl) (fun k hk => by cases hk) (by kernel_rfl) (hostParts_met os))) ?_
  intro W base args ds gs before hval hW _ _ hsz hL _ _
  exact hostParts_contract H enc W base args ds gs before hval hW hsz hL

theorem hostParts_said : Rows.HostPartsSaid :=
  OpenClaim.holds_of_cond 8 Tryd.f8 rfl rfl rfl rfl rfl rfl rfl ⟨rfl, rfl, rfl, rfl, rfl⟩ rfl rfl rfl rfl rfl (by kernel_rfl) Tryd.func8 (by kernel_rfl)
    (of_decide_eq_true (by kernel_rfl)) (by unfold Func.isWrapper; first | (rw [if_pos (by decide +kernel)]; kernel_rfl) | (rw [if_neg (by decide +kernel)]; exact ⟨rfl, rfl⟩))
    (fun os started H enc _ F => by rw [OpenClaim.pre_eq_preRow]; exact hostParts_lifted os started H enc F)

theorem hostParts_plain (f : FuncId) (fn : Func) (hf : Tryd.pinned.checked.prog.funcNamed Tryd.f8.name = some f) (hfn : Tryd.pinned.checked.prog.funcs[f]? = some fn) :
    false = Tryd.pinned.checked.prog.looks [] ∧ ∀ (j : Nat) t, fn.params[j]? = some t → Tryd.pinned.checked.prog.wantsStandIn t = false := by
  obtain rfl : f = 8 := Option.some.inj ((show Tryd.prog.funcNamed Tryd.f8.name = some 8 by kernel_rfl).symm.trans hf) |>.symm
  obtain rfl : fn = Tryd.f8 := (Option.some.inj (Tryd.func8.symm.trans hfn)).symm
  refine ⟨by kernel_rfl, fun j t ht => ?_⟩
  have hall : ∀ t ∈ Tryd.f8.params, Tryd.prog.wantsStandIn t = false := of_decide_eq_true (by kernel_rfl)
  exact hall t (Array.mem_of_getElem? ht)

theorem hostParts_card : Rows.HostPartsCardSaid :=
  Claim7.holds_tied_plain_at .later [] _ _ _ _ hostParts_said (fun _ h => by cases h) (by kernel_rfl) (fun _ h => by cases h) hostParts_row_tie rfl ⟨rfl, rfl⟩ (by kernel_rfl) rfl hostParts_plain (by kernel_rfl)
#print axioms hostParts_card

end Go.Proofs.YtmfchplplpiogaaDoor
