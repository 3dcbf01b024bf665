/- Contracts: the reference net: Deliver of none, Clear. -/
import Derived.BigRegion
import Derived.Deep.RegionHeld3
import Derived.Deep.AppendLies
import Derived.Test.YtneomfhlkdpnjaaProg
import Derived.Test.YtneomfhlkdpnjaaKit
import Derived.Test.YtneomfhlkdpnjaaRow
import Derived.Test.YtneomfhlkdpnjaaCod7
import Derived.Test.YtneomfhlkdpnjaaTxt2
import Derived.Test.YtneomfhlkdpnjaaFrm4
import Derived.Test.YtneomfhlkdpnjaaFp
import Derived.Test.YtneomfhlkdpnjaaDsk6
import Derived.Test.YtneomfhlkdpnjaaNet0
import Derived.Test.YtneomfhlkdpnjaaNet1
import Derived.Test.YtneomfhlkdpnjaaNet2
import Derived.Test.YtneomfhlkdpnjaaNet4
import Derived.Test.YtneomfhlkdpnjaaNet6
import Derived.Test.YtneomfhlkdpnjaaNet10
import Derived.Test.YtneomfhlkdpnjaaNet14
import Derived.Test.YtneomfhlkdpnjaaNet15
import Derived.Test.YtneomfhlkdpnjaaRnt1
namespace Go.Proofs.Ytneomfhlkdpnjaa
open Go.RowKit Go.Proofs

set_option maxRecDepth 100000 in
theorem rdeliver_no {w : World} {g : Nat} {v : Value} {rs : List RecP} (h : NetAt 45 w g v rs) {k : Int} (hk : inNB k rs.length = false) :
    Calls Try.prog 16 #[.pointer (some ⟨g, 0, none⟩), .int .i64 k] w fun e w' => e = .returned (.tuple #[zeroPk, .bool false]) ∧ Below w.heap.size w w' := by
  have hbA : Below w.heap.size w (w.alloc (.cells #[.int .i64 0, .int .i64 0, .slice none 0 0] 52)) := below_more (Below.refl _ _) _
  have HPK := Lib.hid (rpeek_no (netAt_below h hbA) hk)
  have HBA := Lib.hid hbA
  have HZR : Hid (Rw (w.alloc (.cells #[.int .i64 0, .int .i64 0, .slice none 0 0] 52)) 0 w.heap.size 52 [.int .i64 0, .int .i64 0, .slice none 0 0]) := Lib.hid (Rw.alloc w _ _ (Nat.zero_le _))
  have hz := zero_cells Try.infoPkz
  clear h hbA hk
  unfold zeroPk at HPK
  go_enter Try.func16, Try.ntmps16
  go_wp2_with (first | (refine wpList_alloc_z rfl 52 rfl #[.int .i64 0, .int .i64 0, .slice none 0 0] hz ?_) | fail)
  refine (HPK.out).mono ?_
  rintro e w1 ⟨rfl, hb1⟩
  have hb2 := below_more hb1 (.cells #[.int .i64 0, .int .i64 0, .slice none 0 0] 52)
  have hr2 := Rw.below HZR.out hb2
  have HTH := Lib.hid (Rw.there hr2 0 3 (Nat.le_refl _))
  obtain ⟨hend, hbe⟩ := pk_back (f := 0) (t := 0) (a := none) (n := 0) (c := 0) hr2 (HBA.out.trans (hb2.mono HBA.out.size))
  have HEND := Lib.hid hend
  have HBE := Lib.hid hbe
  clear hb1 hb2 hr2 hend hbe
  go_wp2_with (first | (refine wpList_alloc_z rfl 52 rfl #[.int .i64 0, .int .i64 0, .slice none 0 0] hz ?_) | (refine wpList_store_mid rfl 52 (.tmp 4) (.tmp 36) rfl w.heap.size 0 #[.int .i64 0, .int .i64 0, .slice none 0 0] rfl rfl HTH.out Try.infoPk (pk_one _ _ _ _ _) ?_) | fail)
  refine bodyPost_ret (v := .tuple #[zeroPk, .bool false]) ?_ rfl ⟨rfl, HBE.out⟩
  exact results_row_tmp rfl _ _ w.heap.size 0 _ [.int .i64 0, .int .i64 0, .slice none 0 0] _ rfl HEND.out Try.underlying52 rfl Try.infoPk _ rfl

theorem rstore_end {T : TypeId} {w w4 : World} {g : Nat} {v v' : Value} {rs rs' : List RecP} (hT2 : T ≠ 5) (h : NetAt T w g v rs) (hsub : ∀ r ∈ rs', r ∈ rs) (hb : Below w.heap.size w w4)
    (ho : OwnP w4 v' rs') (hf : ∀ k, v'.ownBlock = some k → w.heap.size ≤ k) : NetV T w (w4.setCell ⟨g, 0, none⟩ v') g v rs' := by
  have hgw : g < w.heap.size := Rw.size h.1
  have hKF : Kept (Foot g v) w (w4.setCell ⟨g, 0, none⟩ v') := kept_put (kept_below hb) (.inl (.inl rfl)) 0 v'
  have hr4 := rw_kept (F := fun _ => False) h.1 (kept_below hb) (fun h => h)
  refine ⟨v', ⟨Rw.stored hr4 0 v', own_same ho (fun k hk => set_far (by have := hf k hk; omega)), fun r hr => bytP_keep h hT2 hKF (h.2.2 r (hsub r hr))⟩, fun k hk => .inr (hf k hk), hKF⟩

set_option maxRecDepth 100000 in
set_option maxHeartbeats 4000000 in
theorem rclear_any {w : World} {g : Nat} {v : Value} {rs : List RecP} (h : NetAt 45 w g v rs) (k : Int) (hn : rs.length ≤ 64) :
    Calls Try.prog 22 #[.pointer (some ⟨g, 0, none⟩), .int .i64 k] w fun e w' => (∃ q : Nat, e = .returned (.int .i64 q) ∧ q + (keepM k rs).length = rs.length) ∧ NetV 45 w w' g v (keepM k rs) := by
  have H := Lib.hid h
  obtain ⟨va, vc, rfl⟩ := own_len h.2.1
  obtain ⟨n, hnn⟩ : ∃ n, n = rs.length := ⟨_, rfl⟩
  have HN := Lib.hid hnn
  have HNB : Hid (n ≤ 64) := Lib.hid (by omega)
  obtain ⟨i0, hi, hz0, hz1, hz2⟩ := info_parts Try.infoPacket
  rw [← hnn]
  clear h hnn hn
  go_enter Try.func22, Try.ntmps22
  go_wp2_with fail
  go_loopw [5, 6, 7] (fun lv cv iv wr => ∃ (i q c : Nat) (la : Option Addr) (lc : Nat), i ≤ n ∧ iv = .int .i64 i ∧ cv = .int .i64 c ∧ lv = .slice la q lc ∧ Hid (q = (keepM k (rs.take i)).length) ∧ Hid (c + q = i) ∧ Hid (wr.ownsRow w.heap.size 52 3 (.slice la q lc) q (rowsP (keepM k (rs.take i)))) ∧ Hid (Below w.heap.size w wr)) (fun _ _ iv _ => n - (intOf iv).toNat)
  case atStart => exact ⟨0, 0, 0, none, 0, Nat.zero_le _, rfl, rfl, rfl, Lib.hid rfl, Lib.hid rfl, Lib.hid (World.ownsRow_nil _ _ _ _), Lib.hid (Below.refl _ _)⟩
  case round =>
    obtain ⟨i, q, c, la, lc, hi', rfl, rfl, rfl, HQ, HC, HO, HB⟩ := hrel
    obtain ⟨w1, hw1⟩ : ∃ w1 : World, w1 = wr := ⟨_, rfl⟩
    subst hw1
    have hA := netAt_below H.out HB.out
    have cg : w1.cell? ⟨g, 0, none⟩ = some (.slice va n vc) := by rw [HN.out]; exact Rw.cell hA.1 rfl
    have fg := Rw.free hA.1 0
    by_cases hlt : i < n
    · obtain ⟨r, hr⟩ : ∃ r, rs[i]? = some r := ⟨_, List.getElem?_eq_getElem (by rw [← HN.out]; exact hlt)⟩
      obtain ⟨gr, vc', hv, hc, hrange⟩ := ownP_range hA.2.1 hr
      injection hv with e1 e2 e3
      subst e1 e3
      clear e2
      obtain ⟨ua, uc, hu⟩ := own_len (hA.2.2 r (List.mem_of_getElem? hr)).1
      have HKS := Lib.hid (keepM_snoc k hr)
      obtain ⟨⟨f, t, b⟩, u⟩ := r
      dsimp only at hu hrange HKS
      subst hu
      have d0 : w1.cell? ⟨gr, i * 3, none⟩ = some (.int .i64 f) := hrange 0 _ rfl
      have d1 : w1.cell? ⟨gr, i * 3 + 1, none⟩ = some (.int .i64 t) := hrange 1 _ rfl
      have d2 : w1.cell? ⟨gr, i * 3 + 2, none⟩ = some (.slice ua b.length uc) := hrange 2 _ rfl
      have hy : (i : Int) < (n : Int) := by omega
      have hi64 : (i : Int) < 64 := by have := HNB.out; omega
      have hc64 : (c : Int) < 64 := by have := HC.out; omega
      have HQ64 : Hid (q < 64) := Lib.hid (by have := HC.out; have := HNB.out; omega)
      have HJ := Lib.hid hlt
      clear hA hr hc hrange hlt hi'
      cases hq1 : (f == k) with
      | true =>
        have HISM : Hid (isM k ⟨f, t, b⟩ = true) := Lib.hid (by unfold isM; dsimp only; rw [hq1]; rfl)
        have hk2 : keepM k (rs.take (i + 1)) = keepM k (rs.take i) := by rw [HKS.out, HISM.out, if_pos rfl, List.append_nil]
        have HK2 := Lib.hid hk2
        clear hk2
        go_wp2_with fail
        go_roundw
        case rel =>
          have := HJ.out
          have := HC.out
          refine ⟨i + 1, q, c + 1, la, lc, by omega, by go_num, by go_num, rfl, Lib.hid (by rw [HK2.out]; exact HQ.out), Lib.hid (by omega), Lib.hid (by rw [HK2.out]; exact HO.out), HB⟩
        case measure => have := HJ.out; simp [intOf]; omega
      | false =>
        cases hq2 : (t == k) with
        | true =>
          have HISM : Hid (isM k ⟨f, t, b⟩ = true) := Lib.hid (by unfold isM; dsimp only; rw [hq1, hq2]; rfl)
          have hk2 : keepM k (rs.take (i + 1)) = keepM k (rs.take i) := by rw [HKS.out, HISM.out, if_pos rfl, List.append_nil]
          have HK2 := Lib.hid hk2
          clear hk2
          go_wp2_with fail
          go_roundw
          case rel =>
            have := HJ.out
            have := HC.out
            refine ⟨i + 1, q, c + 1, la, lc, by omega, by go_num, by go_num, rfl, Lib.hid (by rw [HK2.out]; exact HQ.out), Lib.hid (by omega), Lib.hid (by rw [HK2.out]; exact HO.out), HB⟩
          case measure => have := HJ.out; simp [intOf]; omega
        | false =>
          have HISM : Hid (isM k ⟨f, t, b⟩ = false) := Lib.hid (by unfold isM; dsimp only; rw [hq1, hq2]; rfl)
          have HK2 : Hid (keepM k (rs.take (i + 1)) = keepM k (rs.take i) ++ [⟨⟨f, t, b⟩, .slice ua b.length uc⟩]) := Lib.hid (by rw [HKS.out, HISM.out]; rfl)
          have HMX : Hid (q + 1 ≤ maxLen) := Lib.hid (by have := HQ64.out; unfold maxLen; omega)
          have HBT : Hid ((q + 1) * 40 ≤ 140737488355328) := Lib.hid (by have := HQ64.out; omega)
          have H01 : Hid (w.heap.size ≤ (w1.alloc (.cells #[.int .i64 f, .int .i64 t, .slice ua b.length uc] 52)).heap.size) := Lib.hid (by have := HB.out.size; simp; omega)
          go_wp2_with (first | (refine wpList_append_lies _ rfl (.tmp 41) (.tmp 49) 43 rfl w.heap.size 52 i0 _ 3 40 Try.underlying43 hi hz0 hz1 hz2 rfl (by decide) (.slice la q lc) q (rowsP (keepM k (rs.take i))) rfl ((HO.out).alloc _) ⟨w1.heap.size, 0, none⟩ 1 1 [.int .i64 f, .int .i64 t, .slice ua b.length uc] rfl rfl (World.news_of_block (heap_alloc_new w1 _)) (pk_cells_one _ _ _ _ _) (by decide) HMX.out HBT.out H01.out (w1.heap.size + 1) (by simp) ?_; intro gg cap w4 hown4 hgrow hat hlt4; have HO4 := Lib.hid hown4; have HB4 := Lib.hid ((HB.out.alloc HB.out.size _).trans (below_own ((HO.out).alloc _) hgrow H01.out)); clear hown4 hgrow hat hlt4 cg fg d0 d1 d2) | fail)
          go_roundw
          case rel =>
            have := HJ.out
            have := HC.out
            refine ⟨i + 1, q + 1, c, some ⟨gg, 0, none⟩, cap, by omega, by go_num, rfl, rfl, Lib.hid (by rw [HK2.out, List.length_append, ← HQ.out]; rfl), Lib.hid (by omega), Lib.hid (by rw [HK2.out, rowsP_app, rowsP_one]; exact HO4.out), HB4⟩
          case measure => have := HJ.out; simp [intOf]; omega
    · have hin : i = n := by omega
      have hy : ¬ (i : Int) < (n : Int) := by omega
      have htk : rs.take i = rs := List.take_of_length_le (by rw [← HN.out]; omega)
      have hO := HO.out
      have hQ := HQ.out
      rw [htk] at hO hQ
      have hOP : OwnP w1 (.slice la q lc) (keepM k rs) := by
        show w1.ownsRow 0 52 3 (.slice la q lc) (keepM k rs).length (rowsP (keepM k rs))
        rw [← hQ]
        exact own_mono hO (Nat.zero_le _)
      have hE := rstore_end (by decide) H.out (fun r hr => (List.mem_filter.1 hr).1) HB.out hOP (fun j hj => (World.ownsRow.lt hO j hj).1)
      have HE := Lib.hid hE
      have HCN : Hid (c + (keepM k rs).length = n) := Lib.hid (by have := HC.out; omega)
      clear hA hin htk hO hQ hOP hE hlt hi'
      go_wp2_with fail
      go_ret
      rw [HN.out] at HCN ⊢
      exact ⟨⟨c, rfl, HCN.out⟩, HE.out⟩

end Go.Proofs.Ytneomfhlkdpnjaa
