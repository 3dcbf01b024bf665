/- csp: what a policy is written as: the reference's Text. -/
import Derived.Test.YtceajdpjablfiaaShelf
import Derived.BigRegion
import Derived.BigQuiet
import Derived.Test.YtceajdpjablfiaaProg
import Derived.Test.YtceajdpjablfiaaKit
import Derived.Test.YtceajdpjablfiaaAsc4
import Derived.Test.YtceajdpjablfiaaRow
import Derived.Test.YtceajdpjablfiaaHdr10
import Derived.Test.YtceajdpjablfiaaHdr17
import Derived.Test.YtceajdpjablfiaaCsp0
import Derived.Test.YtceajdpjablfiaaCsp1
namespace Go.Proofs.Ytceajdpjablfiaa
open Go.RowKit Go.Proofs

set_option maxRecDepth 100000 in
set_option maxHeartbeats 2000000 in
theorem rtext_any (ds : List DirM) (v : Value) (w : World) (hv : DirsAt w v ds) (hT : dirsN ds ≤ 5001) :
    Calls Try.prog 18 #[v] w fun e w' => e = .returned (.string ⟨(cspT ds).toArray⟩) ∧ w' = w := by
  obtain ⟨va, vc, hv2⟩ := dirs_len hv
  subst hv2
  have HV := Lib.hid hv
  have HTT := Lib.hid hT
  obtain ⟨n, hn⟩ : ∃ n, n = ds.length := ⟨_, rfl⟩
  have HNN := Lib.hid hn
  have HNB : Hid (n ≤ 5001) := Lib.hid (by have := dirsN_len ds; omega)
  rw [← hn]
  clear hv hT hn
  go_enter Try.func18, Try.ntmps18
  go_wp2_with fail
  go_loopw [3, 4] (fun t j wr => ∃ (k : Nat) (T : ByteArray), k ≤ n ∧ j = .int .i64 k ∧ t = .string T ∧ Hid (T.data.toList = cspT (ds.take k)) ∧ wr = w) (fun _ j _ => n - (intOf j).toNat)
  case atStart => exact ⟨0, ⟨#[]⟩, Nat.zero_le _, rfl, rfl, Lib.hid rfl, rfl⟩
  case round =>
    obtain ⟨k, T, hk, rfl, rfl, HT, hw⟩ := hrel
    subst wr
    by_cases hlt : k < n
    · obtain ⟨d, hdk⟩ : ∃ d, ds[k]? = some d := ⟨_, List.getElem?_eq_getElem (by rw [← HNN.out]; exact hlt)⟩
      obtain ⟨bv, ov, cv, hvv, d0, ud, d1, hsd⟩ := dirs_at HV.out hdk
      injection hvv with e1 e2 e3
      subst e1 e3
      clear e2
      obtain ⟨X, hX⟩ : ∃ X : ByteArray, X.data.toList = d.cdn := ⟨⟨d.cdn.toArray⟩, rfl⟩
      rw [strL_of hX] at d0
      obtain ⟨da, dc, rfl⟩ := strSl_len hsd
      obtain ⟨q, hq⟩ : ∃ q, q = d.cdl.length := ⟨_, rfl⟩
      rw [← hq] at d1 hsd
      have HQ := Lib.hid hq
      have HSD := Lib.hid hsd
      have HD1 := Lib.hid d1
      have hii : (k : Int) < (n : Int) := by omega
      have hi6 : (k : Int) < 5001 := by have := HNB.out; omega
      have HII := Lib.hid (And.intro hii hi6)
      have HKN := Lib.hid hlt
      have HBD : Hid (d.cdn.length ≤ 5001 ∧ q ≤ 5001) := Lib.hid (by
        have h1 := dirsN_mem (List.mem_of_getElem? hdk)
        have h2 := HTT.out
        have h6 := llTot_len d.cdl
        unfold dirN at h1
        simp only [llTot] at h1
        refine ⟨by omega, by omega⟩)
      have HTK := Lib.hid (take_succ_of hdk)
      have hTs : T.size ≤ 20000 := by rw [← size_data, HT.out]; have h1 := cspT_take ds k; have h2 := HTT.out; omega
      have hXs : X.size ≤ 5001 := by rw [← size_data, hX]; exact HBD.out.1
      have HNZ : Hid (k ≠ 0 → ds.take k ≠ []) := Lib.hid (fun h e => by
        have h1 : (ds.take k).length = 0 := by rw [e]; rfl
        rw [List.length_take] at h1
        have := HNN.out
        omega)
      clear hsd hdk hq hlt hk
      by_cases hk0 : k = 0
      · have HK0 := Lib.hid hk0
        have hn0 : (0 < k) = False := eq_false (by omega)
        clear hk0
        obtain ⟨T3, hT3⟩ : ∃ T3 : ByteArray, T3 = T ++ X := ⟨_, rfl⟩
        have HP3 : Hid (T3.data.toList = d.cdn) := Lib.hid (by rw [hT3]; rw [happ, hX]; have h := HT.out; rw [HK0.out] at h; rw [h]; rfl)
        have hT3s : T3.size ≤ 20000 := by have h1 := HBD.out; rw [← size_data, HP3.out]; have h2 : d.cdn.length ≤ 5001 := h1.1; omega
        have hTX : (T ++ X).size ≤ 20000 := by rw [← hT3]; exact hT3s
        go_wp2_with fail
        rw [← hT3]
        clear hT3 hX hT3s hn0 hTX hTs
        have HPL : Hid (d.cdn ++ d.cdl.flatMap (fun x => 32 :: x) = cspT (ds.take (k + 1))) := Lib.hid (by have h : ds.take k = [] := (by rw [HK0.out]; rfl); rw [HTK.out, h]; show _ = dirT d ++ []; rw [List.append_nil]; rfl)
        go_loopw [3, 5] (fun t j wr => ∃ (i : Nat) (T4 : ByteArray), i ≤ q ∧ j = .int .i64 i ∧ t = .string T4 ∧ Hid (T4.data.toList = d.cdn ++ (d.cdl.take i).flatMap (fun x => 32 :: x)) ∧ wr = w) (fun _ j _ => q - (intOf j).toNat)
        case atStart => exact ⟨0, T3, Nat.zero_le _, rfl, rfl, Lib.hid (by rw [HP3.out]; simp), rfl⟩
        case round =>
          obtain ⟨i, T4, hi9, rfl, rfl, HT4, hw⟩ := hrel
          subst wr
          have d1 := HD1.out
          have hii := HII.out.1
          have hi6 := HII.out.2
          by_cases hiq : i < q
          · obtain ⟨S, hS⟩ : ∃ S : ByteArray, d.cdl[i]? = some S.data.toList := by
              obtain ⟨x, hx⟩ : ∃ x, d.cdl[i]? = some x := ⟨_, List.getElem?_eq_getElem (by rw [← HQ.out]; exact hiq)⟩
              exact ⟨⟨x.toArray⟩, hx⟩
            have HS2 := Lib.hid (take_succ_of hS)
            have hT4n : Hid ((T4 ++ ⟨#[32]⟩ ++ S).data.toList = d.cdn ++ (d.cdl.take (i + 1)).flatMap (fun x => 32 :: x)) := Lib.hid (by
              rw [HS2.out, List.flatMap_append, ← List.append_assoc, ← HT4.out, happ, happ]
              simp)
            have hszb : (T4 ++ ⟨#[32]⟩ ++ S : ByteArray).size ≤ 20000 := by
              have h1 : (d.cdn ++ (d.cdl.take (i + 1)).flatMap (fun x => 32 :: x)).length ≤ (d.cdn ++ d.cdl.flatMap (fun x => 32 :: x)).length := by
                have h2 : d.cdl.flatMap (fun x => 32 :: x) = (d.cdl.take (i + 1)).flatMap (fun x => 32 :: x) ++ (d.cdl.drop (i + 1)).flatMap (fun x => 32 :: x) := by rw [← List.flatMap_append, List.take_append_drop]
                rw [h2]; simp only [List.length_append]
                omega
              rw [HPL.out, ← hT4n.out, size_data] at h1
              have h3 := cspT_take ds (k + 1)
              have h4 := HTT.out
              omega
            have hsz1 : (T4 ++ ⟨#[32]⟩ : ByteArray).size ≤ 20000 := by rw [ByteArray.size_append] at hszb; omega
            have hsz2 : T4.size ≤ 20000 := by rw [ByteArray.size_append] at hsz1; omega
            have hsz3 : S.size ≤ 20000 := by rw [ByteArray.size_append] at hszb; omega
            obtain ⟨b2, o2, hda, s0⟩ : ∃ b2 o2, da = some ⟨b2, o2, none⟩ ∧ w.cell? ⟨b2, o2 + i, none⟩ = some (.string S) := by
              rcases HSD.out with ⟨_, h⟩ | ⟨b2, o2, c2, cur, fr, hv2, _, hat⟩
              · rw [h] at hS; simp at hS
              · injection hv2 with e1 _ _
                exact ⟨b2, o2, e1, by rw [hat i _ hS, strL_data]⟩
            subst hda
            have hiqi : (i : Int) < (q : Int) := by omega
            have hi60 : (i : Int) < 6000 := by have := HBD.out.2; omega
            have HIQ := Lib.hid hiq
            clear hS hiq hi9
            go_wp2_with fail
            go_roundw
            case rel => exact ⟨i + 1, T4 ++ ⟨#[32]⟩ ++ S, HIQ.out, by go_num, rfl, hT4n, trivial⟩
            case measure => have := HIQ.out; simp [intOf]; omega
          · have HT5 : Hid (T4.data.toList = cspT (ds.take (k + 1))) := Lib.hid (by
              rw [← HPL.out, HT4.out, List.take_of_length_le (l := d.cdl) (by have := HQ.out; omega)])
            have hiqi : ¬ (i : Int) < (q : Int) := by omega
            clear hiq hi9
            go_wp2_with fail
            go_roundw
            case rel => exact ⟨k + 1, T4, HKN.out, by go_num, rfl, HT5, trivial⟩
            case measure => have := HKN.out; simp [intOf]; omega
      · have HNE := Lib.hid (HNZ.out hk0)
        have hkp : 0 < k := by omega
        clear hk0
        obtain ⟨T3, hT3⟩ : ∃ T3 : ByteArray, T3 = T ++ ⟨#[59, 32]⟩ ++ X := ⟨_, rfl⟩
        have HP3 : Hid (T3.data.toList = (cspT (ds.take k) ++ 59 :: 32 :: d.cdn)) := Lib.hid (by rw [hT3]; rw [happ, happ, hX, HT.out]; simp)
        have hT3s : T3.size ≤ 20000 := by have h1 := HBD.out; rw [← size_data, HP3.out]; have h2 : d.cdn.length ≤ 5001 := h1.1; have h3 := cspT_take ds k; have h4 := HTT.out; rw [List.length_append, List.length_cons, List.length_cons]; omega
        have hTX : (T ++ ⟨#[59, 32]⟩ ++ X : ByteArray).size ≤ 20000 := by rw [← hT3]; exact hT3s
        have hTX1 : (T ++ ⟨#[59, 32]⟩ : ByteArray).size ≤ 20000 := by rw [ByteArray.size_append] at hTX; omega
        go_wp2_with fail
        rw [← hT3]
        clear hT3 hX hT3s hkp hTX hTX1 hTs
        have HPL : Hid ((cspT (ds.take k) ++ 59 :: 32 :: d.cdn) ++ d.cdl.flatMap (fun x => 32 :: x) = cspT (ds.take (k + 1))) := Lib.hid (by rw [HTK.out]; rw [cspT_snoc _ _ HNE.out]; unfold dirT; simp)
        go_loopw [3, 5] (fun t j wr => ∃ (i : Nat) (T4 : ByteArray), i ≤ q ∧ j = .int .i64 i ∧ t = .string T4 ∧ Hid (T4.data.toList = (cspT (ds.take k) ++ 59 :: 32 :: d.cdn) ++ (d.cdl.take i).flatMap (fun x => 32 :: x)) ∧ wr = w) (fun _ j _ => q - (intOf j).toNat)
        case atStart => exact ⟨0, T3, Nat.zero_le _, rfl, rfl, Lib.hid (by rw [HP3.out]; simp), rfl⟩
        case round =>
          obtain ⟨i, T4, hi9, rfl, rfl, HT4, hw⟩ := hrel
          subst wr
          have d1 := HD1.out
          have hii := HII.out.1
          have hi6 := HII.out.2
          by_cases hiq : i < q
          · obtain ⟨S, hS⟩ : ∃ S : ByteArray, d.cdl[i]? = some S.data.toList := by
              obtain ⟨x, hx⟩ : ∃ x, d.cdl[i]? = some x := ⟨_, List.getElem?_eq_getElem (by rw [← HQ.out]; exact hiq)⟩
              exact ⟨⟨x.toArray⟩, hx⟩
            have HS2 := Lib.hid (take_succ_of hS)
            have hT4n : Hid ((T4 ++ ⟨#[32]⟩ ++ S).data.toList = (cspT (ds.take k) ++ 59 :: 32 :: d.cdn) ++ (d.cdl.take (i + 1)).flatMap (fun x => 32 :: x)) := Lib.hid (by
              rw [HS2.out, List.flatMap_append, ← List.append_assoc, ← HT4.out, happ, happ]
              simp)
            have hszb : (T4 ++ ⟨#[32]⟩ ++ S : ByteArray).size ≤ 20000 := by
              have h1 : ((cspT (ds.take k) ++ 59 :: 32 :: d.cdn) ++ (d.cdl.take (i + 1)).flatMap (fun x => 32 :: x)).length ≤ ((cspT (ds.take k) ++ 59 :: 32 :: d.cdn) ++ d.cdl.flatMap (fun x => 32 :: x)).length := by
                have h2 : d.cdl.flatMap (fun x => 32 :: x) = (d.cdl.take (i + 1)).flatMap (fun x => 32 :: x) ++ (d.cdl.drop (i + 1)).flatMap (fun x => 32 :: x) := by rw [← List.flatMap_append, List.take_append_drop]
                rw [h2]; simp only [List.length_append]
                omega
              rw [HPL.out, ← hT4n.out, size_data] at h1
              have h3 := cspT_take ds (k + 1)
              have h4 := HTT.out
              omega
            have hsz1 : (T4 ++ ⟨#[32]⟩ : ByteArray).size ≤ 20000 := by rw [ByteArray.size_append] at hszb; omega
            have hsz2 : T4.size ≤ 20000 := by rw [ByteArray.size_append] at hsz1; omega
            have hsz3 : S.size ≤ 20000 := by rw [ByteArray.size_append] at hszb; omega
            obtain ⟨b2, o2, hda, s0⟩ : ∃ b2 o2, da = some ⟨b2, o2, none⟩ ∧ w.cell? ⟨b2, o2 + i, none⟩ = some (.string S) := by
              rcases HSD.out with ⟨_, h⟩ | ⟨b2, o2, c2, cur, fr, hv2, _, hat⟩
              · rw [h] at hS; simp at hS
              · injection hv2 with e1 _ _
                exact ⟨b2, o2, e1, by rw [hat i _ hS, strL_data]⟩
            subst hda
            have hiqi : (i : Int) < (q : Int) := by omega
            have hi60 : (i : Int) < 6000 := by have := HBD.out.2; omega
            have HIQ := Lib.hid hiq
            clear hS hiq hi9
            go_wp2_with fail
            go_roundw
            case rel => exact ⟨i + 1, T4 ++ ⟨#[32]⟩ ++ S, HIQ.out, by go_num, rfl, hT4n, trivial⟩
            case measure => have := HIQ.out; simp [intOf]; omega
          · have HT5 : Hid (T4.data.toList = cspT (ds.take (k + 1))) := Lib.hid (by
              rw [← HPL.out, HT4.out, List.take_of_length_le (l := d.cdl) (by have := HQ.out; omega)])
            have hiqi : ¬ (i : Int) < (q : Int) := by omega
            clear hiq hi9
            go_wp2_with fail
            go_roundw
            case rel => exact ⟨k + 1, T4, HKN.out, by go_num, rfl, HT5, trivial⟩
            case measure => have := HKN.out; simp [intOf]; omega
    · have HE : Hid (ds.take k = ds) := Lib.hid (List.take_of_length_le (by have := HNN.out; omega))
      go_wp2_with fail
      go_ret
      refine ⟨?_, rfl⟩
      rw [mk_list T HT.out, HE.out]
      rfl

end Go.Proofs.Ytceajdpjablfiaa
