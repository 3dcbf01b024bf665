/-
  HeaderOrder: which fields need leave hangs neither on their order nor on their names' case; the law returns true for every list of fields, and what was there has not turned. No condition.
-/
import Derived.BigQuiet
import Derived.Laws.BitsLemmas
import Derived.Laws.Cover1
import Derived.Test.YtfgpcajjnpmoeaaProg
import Derived.Test.YtfgpcajjnpmoeaaKit
import Derived.Test.YtfgpcajjnpmoeaaLaw
import Derived.Test.YtfgpcajjnpmoeaaPlain
import Derived.Test.YtfgpcajjnpmoeaaAsc4
import Derived.Test.YtfgpcajjnpmoeaaRow
import Derived.Test.YtfgpcajjnpmoeaaJoin
import Derived.Test.YtfgpcajjnpmoeaaRfd3
import Derived.Test.YtfgpcajjnpmoeaaUrl9
import Derived.Test.YtfgpcajjnpmoeaaHdr0
import Derived.Test.YtfgpcajjnpmoeaaHdr8
import Derived.Test.YtfgpcajjnpmoeaaHdr9
import Derived.Test.YtfgpcajjnpmoeaaHdr13
import Derived.Test.YtfgpcajjnpmoeaaHdr14
import Derived.Test.YtfgpcajjnpmoeaaHdr15
import Derived.Test.YtfgpcajjnpmoeaaHdr16
import Derived.Test.YtfgpcajjnpmoeaaHdr17
import Derived.Test.YtfgpcajjnpmoeaaHdr18
import Derived.Test.YtfgpcajjnpmoeaaHdr19
namespace Go.Proofs.Ytfgpcajjnpmoeaa
open Go.ChangeShapes Go.WideShapes Go.ChangeAt Go.RowKit Go.Proofs
open Go.ChangeMaps (open_string shut_string)

theorem Try.infoFld : (Try.prog.info? 34).map (fun i => (i.zero, i.size, i.bytes)) = some (some (.agg #[.string ByteArray.empty, .string ByteArray.empty]), 2, 32) := by kernel_rfl

theorem cap_snoc (s : ByteArray) (q : Nat) (h : q < s.size) : capL (s.data.toList.take (q + 1)) = capL (s.data.toList.take q) ++ [capB s[q]] := by
  rw [take_snoc s q h]
  simp [capL]

theorem conv_byte {P : Program} (w : World) (x : Int) (c : UInt8) (hx : x = c.toNat) (src e dst : TypeId) (hs : P.underlying src = some (.slice e)) (he : P.underlying e = some (.int .u8)) (hd : P.underlying dst = some .string) :
    (convert src dst (.slice (some ⟨w.heap.size, 0, none⟩) 1 1)).run P (w.alloc (.cells #[.int .u8 x] e)) = .ok (.string ⟨#[c]⟩) (w.alloc (.cells #[.int .u8 x] e)) := by
  subst hx
  rw [run_convert_bytes_arg _ src e hs he w.heap.size 0 1 1 [(c.toNat : Int)] rfl (fun i hi => ?_) dst hd]
  · simp [strOfNums]
  · have h0 : i = 0 := by omega
    subst h0
    rw [cell_of_row _ _ _ _ e (0, 0) (heap_alloc_new w _)]
    rfl

theorem rev_drop {ls : List FldM} {p : Nat} {f : FldM} (h : ls[p]? = some f) : revF (ls.drop p) = revF (ls.drop (p + 1)) ++ [capF f] := by
  obtain ⟨hl, rfl⟩ := List.getElem?_eq_some_iff.1 h
  rw [List.drop_eq_getElem_cons hl, rev_cons]

theorem rev_len (ls : List FldM) : (revF ls).length = ls.length := by unfold revF; rw [List.length_map, List.length_reverse]

set_option maxHeartbeats 2000000 in
theorem headerOrder_any {w : World} (ls : List FldM) (v : Value) (hv : FldsAt w v ls) (hok : FldOk ls) :
    Calls Try.prog 6 #[v] w fun e w' => e = .returned (.bool true) ∧ Below w.heap.size w w' := by
  obtain ⟨i0, hi, hz0, hz1, hz2⟩ := info_parts Try.infoFld
  have HF := Lib.hid (fields_any ls v w hv hok)
  have HV := Lib.hid hv
  have HA := Lib.hid (fun W => hawake_any W)
  obtain ⟨va, vc, rfl⟩ := flds_len hv
  obtain ⟨n, hn⟩ : ∃ n, n = ls.length := ⟨_, rfl⟩
  have HNN := Lib.hid hn
  rw [← hn] at HF ⊢
  clear hv hok hn
  go_enter Try.func6, Try.ntmps6
  go_wp2_with fail
  refine HF.out.mono ?_
  rintro e w1 ⟨⟨b, rfl, hb⟩, hm1⟩
  have B1 := Lib.hid (below_draws (Below.refl w.heap.size w) hm1)
  have HB := Lib.hid hb
  clear hm1 hb
  cases b with
  | false =>
    go_wp2_with fail
    refine (HA.out _).mono ?_
    rintro e w2 ⟨rfl, hb2⟩
    have B2 := Lib.hid (below_then B1.out hb2)
    clear hb2
    go_wp2_with fail
    go_ret
    exact ⟨rfl, B2.out⟩
  | true =>
    have HTT : Hid (fldTot ls ≤ 6000) := Lib.hid (HB.out rfl)
    have hn6 : (n : Int) ≤ 6000 := by have := fldTot_len ls; have := HTT.out; have := HNN.out; omega
    go_wp2_with fail
    go_loopw [3, 4] (fun r i wr => ∃ (j : Nat) (ii : Int) (rv : Value), i = .int .i64 ii ∧ ii = (j : Int) - 1 ∧ j ≤ n ∧ rv = r ∧ Hid (wr.ownsRow w1.heap.size 34 2 rv (revF (ls.drop j)).length (fldC (revF (ls.drop j)))) ∧ Hid (Below w1.heap.size w1 wr)) (fun _ i _ => (intOf i + 1).toNat)
    case atStart => exact ⟨n, _, _, rfl, by go_num, Nat.le_refl _, rfl, Lib.hid (by rw [HNN.out, List.drop_length]; exact World.ownsRow_nil _ _ _ _), Lib.hid (Below.refl _ _)⟩
    case round =>
      obtain ⟨j, ii, r, rfl, hij, hj, rfl, HO, HB1⟩ := hrel
      obtain ⟨w2, hw2⟩ : ∃ w2 : World, w2 = wr := ⟨_, rfl⟩
      subst hw2
      have BW := Lib.hid (B1.out.trans (HB1.out.mono B1.out.size))
      by_cases hj0 : j = 0
      · have hneg : ii < 0 := by omega
        have HD0 : Hid (ls.drop j = ls) := Lib.hid (by rw [hj0, List.drop_zero])
        have hown := HO.out
        rw [HD0.out] at hown
        have HFM := Lib.hid (flds_own hown)
        obtain ⟨ra, rc, rfl⟩ := own_len hown
        obtain ⟨m, hm⟩ : ∃ m, m = (revF ls).length := ⟨_, rfl⟩
        rw [← hm] at HFM
        rw [← hm]
        have HU := Lib.hid (unsafe_any ls _ w2 (flds_below HV.out BW.out) HTT.out)
        have HUR : Hid (∀ W, Below w2.heap.size w2 W → Calls Try.prog 24 #[.slice ra m rc] W fun e w' => UnsV w' (revF ls) e ∧ Below W.heap.size W w') := Lib.hid (fun W hW => unsafe_any (revF ls) _ W (flds_below HFM.out hW) (by rw [rev_tot]; exact HTT.out))
        rw [← HNN.out] at HU
        clear hown hm hij hj hj0 hn6 HO
        go_wp2_with fail
        refine HU.out.mono ?_
        rintro e w3 ⟨⟨u3, R, rfl, s3, a3, m3, l3⟩, hb3⟩
        have HB3 := Lib.hid hb3
        have HS3 := Lib.hid s3
        have HAS := Lib.hid a3
        have HMM := Lib.hid m3
        obtain ⟨xa, xc, hu3⟩ := s3.len
        rw [List.length_map] at hu3
        subst hu3
        obtain ⟨k, hk⟩ : ∃ k, k = R.length := ⟨_, rfl⟩
        have HKK := Lib.hid hk
        have HL3 := Lib.hid l3
        rw [← hk] at HS3 ⊢
        have hk12 : (k : Int) ≤ 12000 := by omega
        clear hb3 s3 a3 m3 hk l3
        go_wp2_with fail
        go_loopw [9] (fun i2 wr2 => ∃ q : Nat, 1 ≤ q ∧ q ≤ k + 1 ∧ i2 = .int .i64 q ∧ Hid (∃ m, wr2 = w3.drewN m)) (fun i2 _ => k + 1 - (intOf i2).toNat)
        case atStart => exact ⟨1, Nat.le_refl _, by omega, rfl, Lib.hid ⟨0, rfl⟩⟩
        case round =>
          obtain ⟨q, hq1, hqk, rfl, HM⟩ := hrel
          obtain ⟨w4, hw4⟩ : ∃ w4 : World, w4 = wr := ⟨_, rfl⟩
          subst hw4
          have hcell : ∀ p, w4.cell? p = w3.cell? p := by obtain ⟨m, rfl⟩ := HM.out; intro p; rfl
          have HCELL := Lib.hid hcell
          clear hcell
          by_cases hql : q < k
          · obtain ⟨jj, rfl⟩ : ∃ jj, q = jj + 1 := ⟨q - 1, by omega⟩
            obtain ⟨x, hx⟩ : ∃ x, R[jj]? = some x := ⟨_, List.getElem?_eq_getElem (by have := HKK.out; omega)⟩
            obtain ⟨y, hy⟩ : ∃ y, R[jj + 1]? = some y := ⟨_, List.getElem?_eq_getElem (by have := HKK.out; omega)⟩
            obtain ⟨X, hX⟩ : ∃ X : ByteArray, X = ⟨x.toArray⟩ := ⟨_, rfl⟩
            obtain ⟨Y, hY⟩ : ∃ Y : ByteArray, Y = ⟨y.toArray⟩ := ⟨_, rfl⟩
            obtain ⟨a, c, he, hcs⟩ := HS3.out
            rcases hcs with hnil | ⟨b, o, hb, hat⟩
            · exact absurd (show R.length = 0 by rw [List.map_eq_nil_iff.1 hnil]; rfl) (by have := HKK.out; omega)
            subst hb
            injection he with f1 f2 f3
            subst f1 f3
            clear f2
            have cx : w4.cell? ⟨b, o + jj, none⟩ = some (.string X) := (HCELL.out _).trans (hat jj _ (by rw [map_at hx, hX]; rfl))
            obtain ⟨q, hqq⟩ : ∃ q, q = jj + 1 := ⟨_, rfl⟩
            rw [← hqq] at hy hql hq1 hqk ⊢
            have cy : w4.cell? ⟨b, o + q, none⟩ = some (.string Y) := (HCELL.out _).trans (hat q _ (by rw [map_at hy, hY]; rfl))
            have hbef : bytesBefore x y = true := by
              obtain ⟨l1, e1⟩ := List.getElem?_eq_some_iff.1 hx
              obtain ⟨l2, e2⟩ := List.getElem?_eq_some_iff.1 hy
              have := List.pairwise_iff_getElem.1 HAS.out jj q l1 l2 (by omega)
              rw [e1, e2] at this
              exact this
            have hless : Op.bytesLess X.toList Y.toList = true := by rw [less_before, hX, hY]; exact hbef
            have hjj : (q : Int) - 1 = (jj : Int) := by omega
            have hqi : (q : Int) < (k : Int) := by omega
            have hji : (jj : Int) < (k : Int) := by omega
            have hj6 : (jj : Int) < 12000 := by omega
            have hq6 : (q : Int) < 12000 := by omega
            have hwj : IntKind.i64.wrap (jj : Int) = (jj : Int) := by rw [IntKind.wrap_i64]; omega
            clear hx hy hX hY hat hbef hqq
            go_wp2_with fail
            go_quiet (fail)
            go_wp2_with fail
            go_roundw
            case rel => exact ⟨q + 1, by omega, by omega, by go_num, Lib.hid (drewN_two HM.out ⟨_, rfl⟩)⟩
            case measure => simp [intOf]; omega
          · have HB4 := Lib.hid (below_draws HB3.out HM.out)
            have HS4 := Lib.hid (SliceAt.below HS3.out (below_draws (Below.refl _ _) HM.out))
            clear hk12 hq1 hqk
            go_wp2_with fail
            refine (HUR.out _ HB4.out).mono ?_
            rintro e w5 ⟨⟨u5, R5, rfl, s5, a5, m5, l5⟩, hb5⟩
            have hR : R5 = R := asc_eq a5 HAS.out (fun x => by rw [m5, rev_leave, HMM.out])
            subst hR
            have HB5 := Lib.hid (below_then HB4.out hb5)
            have HT : Hid (Calls Try.prog 15 #[.slice xa k xc, u5] w5 fun e w' => e = .returned (.bool true) ∧ ∃ m, w' = w5.drewN m) := Lib.hid (by
              have h := texts_any (.slice xa k xc) u5 R5 R5 w5 (SliceAt.below HS4.out hb5) s5 (by omega) (by omega)
              rw [eqLL_yes rfl] at h
              exact h)
            clear hb5 s5 a5 m5 l5
            go_wp2_with fail
            refine HT.out.mono ?_
            rintro e w6 ⟨rfl, hm6⟩
            have HB6 := Lib.hid (below_draws HB5.out hm6)
            clear hm6
            go_wp2_with fail
            refine (HA.out _).mono ?_
            rintro e w7 ⟨rfl, hb7⟩
            have HB7 := Lib.hid (BW.out.trans ((below_then HB6.out hb7).mono BW.out.size))
            clear hb7
            go_wp2_with fail
            go_ret
            exact ⟨rfl, HB7.out⟩
      · obtain ⟨p, rfl⟩ : ∃ p, j = p + 1 := ⟨j - 1, by omega⟩
        obtain rfl : ii = (p : Int) := by omega
        obtain ⟨f, hfk⟩ : ∃ f, ls[p]? = some f := ⟨_, List.getElem?_eq_getElem (by rw [← HNN.out]; omega)⟩
        have hv1 := flds_below HV.out BW.out
        obtain ⟨b, o, c, hvv, c0, c1⟩ := flds_at hv1 hfk
        injection hvv with e1 e2 e3
        subst e1 e3
        clear e2
        have hpi : (p : Int) < (n : Int) := by omega
        have hp0 : (0 : Int) ≤ (p : Int) := by omega
        have hns : f.hn.size ≤ 6000 := by have := fldTot_mem (List.mem_of_getElem? hfk); have := HTT.out; omega
        have HRD := Lib.hid (rev_drop hfk)
        have HCC : Hid (∀ W, Below w2.heap.size w2 W → W.cell? ⟨b, o + p * 2, none⟩ = some (.string f.hn) ∧ W.cell? ⟨b, o + p * 2 + 1, none⟩ = some (.string f.hv)) := Lib.hid (fun W hW => ⟨cell_stays c0 hW, cell_stays c1 hW⟩)
        have HLE : Hid ((revF (ls.drop (p + 1))).length < 1000000) := Lib.hid (by rw [rev_len, List.length_drop]; have := HNN.out; omega)
        clear hij hfk hv1 hj0
        go_wp2_with fail
        go_loopw [5, 6] (fun s q2 wr2 => ∃ (q : Nat) (N : ByteArray), q ≤ f.hn.size ∧ q2 = .int .i64 q ∧ s = .string N ∧ N.size ≤ 6000 ∧ Hid (N.data.toList = capL (f.hn.data.toList.take q)) ∧ Hid (Below w2.heap.size w2 wr2)) (fun _ q2 _ => f.hn.size - (intOf q2).toNat)
        case atStart => exact ⟨0, ⟨#[]⟩, Nat.zero_le _, rfl, rfl, Nat.zero_le _, Lib.hid rfl, Lib.hid (Below.refl _ _)⟩
        case round =>
          obtain ⟨q, N, hq, rfl, rfl, hNs, HNL, HB3⟩ := hrel
          obtain ⟨w3, hw3⟩ : ∃ w3 : World, w3 = wr := ⟨_, rfl⟩
          subst hw3
          obtain ⟨d0, d1⟩ := HCC.out w3 HB3.out
          by_cases hql : q < f.hn.size
          · have hqi : (q : Int) < (f.hn.size : Int) := by omega
            have HSN := Lib.hid (cap_snoc f.hn q hql)
            have hbd := byte_bd f.hn[q]
            have hN1 : (N ++ ⟨#[capB f.hn[q]]⟩ : ByteArray).size ≤ 6000 := by
              have h : (N ++ ⟨#[capB f.hn[q]]⟩ : ByteArray).data.toList.length = q + 1 := by
                rw [happ, List.length_append, HNL.out]
                unfold capL
                rw [List.length_map, List.length_take, size_data]
                simp
                omega
              rw [size_data] at h
              omega
            have HNN2 : Hid ((N ++ ⟨#[capB f.hn[q]]⟩ : ByteArray).data.toList = capL (f.hn.data.toList.take (q + 1))) := Lib.hid (by rw [happ, HNL.out, HSN.out])
            have hone : (⟨#[capB f.hn[q]]⟩ : ByteArray).size ≤ 1 := Nat.le_refl _
            have HBN := fun x => Lib.hid (HB3.out.trans ((below_more (Below.refl _ _) (.cells #[.int .u8 x] 5)).mono HB3.out.size))
            by_cases h97 : 97 ≤ (f.hn[q].toNat : Int)
            · by_cases h122 : (f.hn[q].toNat : Int) ≤ 122
              · have kc := conv_byte (P := Try.prog) w3 ((f.hn[q].toNat : Int) - 32) (capB f.hn[q]) (cap_yes ⟨h97, h122⟩).symm 39 5 9 Try.underlying39 Try.underlying5 Try.underlying9
                go_wp2_with fail
                go_roundw
                case rel => exact ⟨q + 1, _, by omega, by go_num, rfl, hN1, HNN2, HBN _⟩
                case measure => simp [intOf]; omega
              · have kc := conv_byte (P := Try.prog) w3 (f.hn[q].toNat : Int) (capB f.hn[q]) (by rw [cap_no (by omega)]) 39 5 9 Try.underlying39 Try.underlying5 Try.underlying9
                go_wp2_with fail
                go_roundw
                case rel => exact ⟨q + 1, _, by omega, by go_num, rfl, hN1, HNN2, HBN _⟩
                case measure => simp [intOf]; omega
            · have kc := conv_byte (P := Try.prog) w3 (f.hn[q].toNat : Int) (capB f.hn[q]) (by rw [cap_no (by omega)]) 39 5 9 Try.underlying39 Try.underlying5 Try.underlying9
              go_wp2_with fail
              go_roundw
              case rel => exact ⟨q + 1, _, by omega, by go_num, rfl, hN1, HNN2, HBN _⟩
              case measure => simp [intOf]; omega
          · have HNE : Hid ((⟨N, f.hv⟩ : FldM) = capF f) := Lib.hid (by
              have h := HNL.out
              rw [List.take_of_length_le (by rw [size_data]; omega)] at h
              unfold capF
              rw [mk_list N h]
              rfl)
            have hown3 := own_below HO.out HB3.out
            have HB3W := Lib.hid (HB1.out.trans (HB3.out.mono HB1.out.size))
            have hsz := HB3W.out.size
            have hle := HLE.out
            have hp6 : (p : Int) < 6000 := by omega
            clear hn6
            go_wp2_with (at_builtin; refine wpList_append_fld rfl _ _ 22 rfl w1.heap.size 34 rfl i0 _ Try.underlying22 hi hz0 hz1 hz2 rfl _ (revF (ls.drop (p + 1))) rfl hown3 _ rfl rfl hle hsz ?_; intro v4 w4 o4 b4)
            go_roundw
            case rel =>
              refine ⟨p, _, _, rfl, by go_num, by omega, rfl, Lib.hid ?_, Lib.hid (HB3W.out.trans b4)⟩
              rw [HNE.out, ← HRD.out] at o4
              exact o4
            case measure => simp [intOf]

theorem headerOrder_own : ownKnob Try.prog.godebug = none := by kernel_rfl

set_option maxRecDepth 100000 in
theorem headerOrder_lifted (os : Os) (started : os.Started) (H : Type) (enc : TypeId × Value → H) :
    ReturnsInHanded {} Try.checked os 6 .any (Rows.headerOrderSpec.pre6 enc Try.prog Try.f6 Rows.headerOrderRow.domain false) (Rows.headerOrderSpec.post enc Try.prog Try.f6 false true false false) := by
  refine law_lifted (C := Try.checked) headerOrder_own started (by kernel_rfl) Try.func6
    (ChangeSpec.witness6 (enc := enc) (C := Try.checked) false ⟨#[], #[.slice none 0 0], []⟩ 8 (by kernel_rfl) (by kernel_rfl) (by kernel_rfl) (by kernel_rfl))
    (by kernel_rfl) (of_decide_eq_true (by kernel_rfl)) (tb := 4) (by kernel_rfl) Try.underlying4 rfl (fun ds h => by match ds, h with | [d0], _ => exact ⟨rfl, rfl, rfl⟩) ?_
  intro W base args ds p hval0 hA0 hlt hsz0
  have hval : ∀ (j : Nat) t v, Try.f6.params[j]? = some t → args[j]? = some v → Value.okWide Try.prog W .any base t v := hval0
  have hA : DataW.TrodAll enc Try.prog W 0 (fun _ => true) true Try.f6.params.toList args.toList ds p := hA0
  have hsz : (DataW.weightsEach Try.prog Try.f6.params.toList ds).all (· ≤ reachBytes) = true := hsz0
  rw [Try.params6] at hA hval hsz
  obtain ⟨v0, vs0, d0, ds0, p0, q0, hargs, rfl, rfl, h0, r0⟩ := trodAll_cons hA
  obtain ⟨rfl, rfl, rfl⟩ := trodAll_nil r0
  obtain rfl : args = #[v0] := by cases args; simp_all
  have s0 := sized_at hsz (j := 0) (t := 22) (d := d0) rfl rfl
  obtain ⟨m0_0, m0_1, t0⟩ := Try.fldTys
  obtain ⟨a0, g0, k0⟩ := open_flds t0 (hval 0 22 v0 rfl rfl) h0 s0
  exact headerOrder_any (w := W) a0 v0 g0 k0

theorem headerOrder_over : Rows.headerOrderRow.holds Try.pinned (OpenSpec.ofChange Rows.headerOrderSpec) :=
  OpenClaim.holds_of_wide 6 Try.f6 rfl rfl rfl rfl rfl rfl rfl ⟨rfl, rfl, rfl, rfl, rfl⟩ rfl rfl rfl rfl rfl (by kernel_rfl) Try.func6 (by kernel_rfl)
    (of_decide_eq_true (by kernel_rfl)) (by unfold Func.isWrapper; first | (rw [if_pos (by decide +kernel)]; kernel_rfl) | (rw [if_neg (by decide +kernel)]; exact ⟨rfl, rfl⟩))
    (fun os started H enc _ => headerOrder_lifted os started H enc)

theorem headerOrder_proved : Rows.HeaderOrderSaid := headerOrder_over
#print axioms headerOrder_proved

end Go.Proofs.Ytfgpcajjnpmoeaa
