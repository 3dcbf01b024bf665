/- Contracts: slices.DeleteFunc of packets, walked. -/
import Derived.BigRegion
import Derived.Deep.RegionHeld3
import Derived.Test.YtneomfhlkdpnjaaProg
import Derived.Test.YtneomfhlkdpnjaaKit
import Derived.Test.YtneomfhlkdpnjaaRow
import Derived.Test.YtneomfhlkdpnjaaCod7
import Derived.Test.YtneomfhlkdpnjaaFp
import Derived.Test.YtneomfhlkdpnjaaDsk6
import Derived.Test.YtneomfhlkdpnjaaNet0
import Derived.Test.YtneomfhlkdpnjaaNet2
import Derived.Test.YtneomfhlkdpnjaaStp
import Derived.Test.YtneomfhlkdpnjaaNet8
import Derived.Test.YtneomfhlkdpnjaaNet9
import Derived.Test.YtneomfhlkdpnjaaNet14
import Derived.Test.YtneomfhlkdpnjaaNet15
namespace Go.Proofs.Ytneomfhlkdpnjaa
open Go.RowKit Go.Proofs

set_option maxRecDepth 100000 in
set_option maxHeartbeats 4000000 in
theorem delfunc_any {w : World} {v : Value} {rs : List RecP} (h : OwnP w v rs) (hone : ∀ r ∈ rs, ∃ a n c, r.u = .slice a n c) {gb : Nat} {k : Int} (hb : Rw w 0 gb 3 [.int .i64 k]) (hn : rs.length ≤ 64) :
    Calls Try.prog 81 #[v, .func (.func 82) #[] #[.pointer (some ⟨gb, 0, none⟩)]] w fun e w' => TookV w w' v (keepM k rs) e := by
  have HIX := Lib.hid (indexfunc_any h hone (Rw.cell hb rfl) hn)
  have H := Lib.hid h
  by_cases hix : idxI k rs = -1
  · have HK := Lib.hid (idxI_no hix)
    rw [hix] at HIX
    obtain ⟨a, c, rfl⟩ := own_len h
    obtain ⟨n, hnn⟩ : ∃ n, n = rs.length := ⟨_, rfl⟩
    have HN := Lib.hid hnn
    rw [← hnn] at HIX ⊢
    clear h hone hb hn hix hnn
    go_enter Try.func81, Try.ntmps81
    go_wp2_with fail
    refine (HIX.out).mono ?_
    rintro e w1 ⟨rfl, hb1⟩
    have HB1 := Lib.hid hb1
    clear hb1 HIX
    go_wp2_with fail
    go_ret
    refine ⟨_, rfl, ?_, rfl, kept_below HB1.out⟩
    rw [HK.out, HN.out]
    exact own_below H.out HB1.out
  · obtain ⟨i0, hi0, hil, hik⟩ := idxI_some hix
    rw [hi0] at HIX
    obtain ⟨gr, c, L0, rfl, hc, hm, hr, hl, ht⟩ := ownP_blk h (by intro e; rw [e] at hil; simp at hil)
    obtain ⟨n, hnn⟩ : ∃ n, n = rs.length := ⟨_, rfl⟩
    have HN := Lib.hid hnn
    have HST := Lib.hid (delL_start hl hc ht hil hik)
    have HO := Lib.hid hone
    have HB := Lib.hid hb
    have HR := Lib.hid hr
    have HM := Lib.hid hm
    have HGB : Hid (gb ≠ gr) := Lib.hid (rw_type hb hr (by decide))
    have hne : ((i0 : Int) == -1) = false := by rw [beq_eq_false_iff_ne]; omega
    have hi64 : (i0 : Int) < 64 := by omega
    have HNB : Hid (n ≤ 64) := Lib.hid (by omega)
    have HIL : Hid (i0 < n) := Lib.hid (by omega)
    have hz := zero_cells Try.infoPkz
    have henter : Enters Try.prog 82 := enters_of Try.func82 (by kernel_rfl) rfl
    rw [← hnn] at HIX ⊢
    clear h hone hb hn hix hnn hi0 hil hik hc hm hr hl ht
    go_enter Try.func81, Try.ntmps81
    go_wp2_with fail
    refine (HIX.out).mono ?_
    rintro e w1 ⟨rfl, hb1⟩
    have HB1 := Lib.hid hb1
    clear hb1 HIX
    go_wp2_with fail
    go_loopw [5, 6] (fun iv jv wr => ∃ (i j : Nat) (L : List Value), iv = .int .i64 i ∧ jv = .int .i64 j ∧ Hid (DelL L k rs c i j) ∧ Hid (Rw wr 0 gr 52 L) ∧ Hid (Kept (fun q => some gr = some q) w wr)) (fun _ jv _ => n - (intOf jv).toNat)
    case atStart => exact ⟨i0, i0 + 1, L0, rfl, by go_num, HST, Lib.hid (Rw.below HR.out HB1.out), Lib.hid (kept_below HB1.out)⟩
    case round =>
      obtain ⟨i, j, L, rfl, rfl, HD, HR2, HK⟩ := hrel
      obtain ⟨w2, hw2⟩ : ∃ w2 : World, w2 = wr := ⟨_, rfl⟩
      subst hw2
      have hij : i < j := HD.out.2.2.1
      have hjn : j ≤ n := by rw [HN.out]; exact HD.out.2.2.2.1
      have hnc : n ≤ c := by rw [HN.out]; exact HD.out.2.2.2.2.1
      by_cases hlt : j < n
      · obtain ⟨r, hrr⟩ : ∃ r, rs[j]? = some r := ⟨_, List.getElem?_eq_getElem (by rw [← HN.out]; exact hlt)⟩
        obtain ⟨ua, un, uc, hu⟩ := HO.out r (List.mem_of_getElem? hrr)
        obtain ⟨⟨f, t, b⟩, u⟩ := r
        dsimp only at hu
        subst hu
        have d0 : w2.cell? ⟨gr, j * 3, none⟩ = some (.int .i64 f) := Rw.cell HR2.out (delL_cell HD.out hrr (x := 0) rfl)
        have d1 : w2.cell? ⟨gr, j * 3 + 1, none⟩ = some (.int .i64 t) := Rw.cell HR2.out (delL_cell HD.out hrr (x := 1) rfl)
        have d2 : w2.cell? ⟨gr, j * 3 + 2, none⟩ = some (.slice ua un uc) := Rw.cell HR2.out (delL_cell HD.out hrr (x := 2) rfl)
        have hbx : Rw w2 0 gb 3 [.int .i64 k] := rw_kept HB.out HK.out (fun e => HGB.out (Option.some.inj e).symm)
        have hcl := lose1_any f t b (.slice ua un uc) gb k (w2.alloc (.cells #[.int .i64 f, .int .i64 t, .slice ua un uc] 52)) (Rw.cell (Rw.more hbx _) rfl)
        obtain ⟨q, hq⟩ : ∃ q, q = isM k ⟨f, t, b⟩ := ⟨_, rfl⟩
        rw [← hq] at hcl
        have HCL := Lib.hid hcl
        have hy : (j : Int) < (n : Int) := by omega
        have hj64 : (j : Int) < 64 := by have := HNB.out; omega
        have hi642 : (i : Int) < 64 := by omega
        have hi0' : (i : Int) < (n : Int) := by omega
        have HJ := Lib.hid hlt
        have hb23 : Below w2.heap.size w2 (w2.alloc (.cells #[.int .i64 f, .int .i64 t, .slice ua un uc] 52)) := below_more (Below.refl _ _) _
        have HB23 := Lib.hid hb23
        have hrp : Rw (w2.alloc (.cells #[.int .i64 f, .int .i64 t, .slice ua un uc] 52)) 0 w2.heap.size 52 [.int .i64 f, .int .i64 t, .slice ua un uc] := Rw.alloc w2 _ _ (Nat.zero_le _)
        have HRP := Lib.hid hrp
        have HIN : Hid (i * 3 + 3 ≤ L.length) := Lib.hid (by have := HD.out.1; omega)
        cases q with
        | true =>
          have HDS := Lib.hid (delL_skip HD.out hrr hq.symm)
          clear hcl hq hrr hlt hbx hb23 hrp hij hjn hnc
          go_wp2_with (first | (refine wpList_alloc_z rfl 52 rfl #[.int .i64 0, .int .i64 0, .slice none 0 0] hz ?_) | (refine wpList_callv rfl (.tmp 26) _ _ rfl 82 #[.pointer (some ⟨gb, 0, none⟩)] rfl #[.agg #[.int .i64 f, .int .i64 t, .slice ua un uc], .pointer (some ⟨gb, 0, none⟩)] (by simp [go_sem]) henter HCL.out ?_; rintro e w3 ⟨rfl, hb3⟩; have HB3 := Lib.hid (below_then HB23.out hb3); clear hb3 d0 d1 d2; refine ⟨_, rfl, ?_⟩) | fail)
          go_roundw
          case rel => have := HJ.out; exact ⟨i, j + 1, L, rfl, by go_num, HDS, Lib.hid (Rw.below HR2.out HB3.out), Lib.hid (kept_then (G := fun _ => False) HK.out (kept_below HB3.out) (fun _ h => h.elim))⟩
          case measure => have := HJ.out; simp [intOf]; omega
        | false =>
          have HDK := Lib.hid (delL_keep HD.out hrr hq.symm (f := f) (t := t) (u := .slice ua un uc) rfl)
          clear hcl hq hrr hlt hbx hb23 hrp hij hjn hnc
          go_wp2_with (first | (refine wpList_alloc_z rfl 52 rfl #[.int .i64 0, .int .i64 0, .slice none 0 0] hz ?_) | (refine wpList_callv rfl (.tmp 26) _ _ rfl 82 #[.pointer (some ⟨gb, 0, none⟩)] rfl #[.agg #[.int .i64 f, .int .i64 t, .slice ua un uc], .pointer (some ⟨gb, 0, none⟩)] (by simp [go_sem]) henter HCL.out ?_; rintro e w3 ⟨rfl, hb3⟩; have HB3 := Lib.hid (below_then HB23.out hb3); have hrq := Rw.below HRP.out hb3; have e0 : w3.cell? ⟨w2.heap.size, 0, none⟩ = some (.int .i64 f) := Rw.cell hrq rfl; have e1 : w3.cell? ⟨w2.heap.size, 1, none⟩ = some (.int .i64 t) := Rw.cell hrq rfl; have e2 : w3.cell? ⟨w2.heap.size, 2, none⟩ = some (.slice ua un uc) := Rw.cell hrq rfl; have HR3 := Lib.hid (Rw.below HR2.out HB3.out); have HTH := Lib.hid (Rw.there HR3.out (i * 3) 3 HIN.out); clear hb3 d0 d1 d2 hrq; refine ⟨_, rfl, ?_⟩) | (refine wpList_store_mid rfl 52 (.tmp 33) (.tmp 32) rfl gr (i * 3) #[.int .i64 f, .int .i64 t, .slice ua un uc] rfl rfl HTH.out Try.infoPk (pk_one _ _ _ _ _) ?_) | fail)
          go_roundw
          case rel => have := HJ.out; exact ⟨i + 1, j + 1, _, by go_num, by go_num, HDK, Lib.hid (rw_mid HR3.out (i * 3) [.int .i64 f, .int .i64 t, .slice ua un uc] HIN.out), Lib.hid (kept_setCells (kept_then (G := fun _ => False) HK.out (kept_below HB3.out) (fun _ h => h.elim)) (.inl rfl) _ _)⟩
          case measure => have := HJ.out; simp [intOf]; omega
      · have hjn2 : j = rs.length := by rw [← HN.out]; omega
        have hD : DelL L k rs c i rs.length := by have := HD.out; rw [hjn2] at this; exact this
        have hy : ¬ (j : Int) < (n : Int) := by omega
        have hin : i < n := by omega
        have hs1 := fun W => sl_l W gr n c i (by omega)
        have hs2 := fun W => sl_h W gr n c i (by omega)
        rw [if_neg (by omega)] at hs1
        have hth := Rw.there HR2.out (i * 3) ((n - i) * 3) (by have := HD.out.1; omega)
        obtain ⟨zs, hzl, hcl⟩ := run_clear3 w2 43 52 _ _ _ Try.underlying43 (zero_cells Try.infoPkz) rfl rfl rfl gr (i * 3) (n - i) (c - i) (by omega) hth
        have HE := Lib.hid (delL_end hD HM.out HR2.out (zs := zs) (by rw [hzl, HN.out]))
        have HKE := Lib.hid (kept_setCells HK.out (g := gr) (.inl rfl) (i * 3) zs)
        have hi64' : (i : Int) < 64 := by have := HNB.out; omega
        clear hjn2 hD hin hth hzl hlt hij hjn hnc
        go_wp2_with fail
        go_ret
        exact ⟨_, rfl, HE.out, rfl, HKE.out⟩

end Go.Proofs.Ytneomfhlkdpnjaa
