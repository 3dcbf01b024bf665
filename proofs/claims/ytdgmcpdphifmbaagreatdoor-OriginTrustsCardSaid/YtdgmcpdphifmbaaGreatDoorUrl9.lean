/- Parse and Port. -/
import Derived.Test.YtdgmcpdphifmbaaGreatDoorShelf
import Derived.Deep.MidRow
import Derived.BigQuiet
import Derived.BigRegion
import Derived.Deep.RegionHeld3
import Derived.Lib.ItoaLen
import Derived.Test.YtdgmcpdphifmbaaGreatDoorProg
import Derived.Test.YtdgmcpdphifmbaaGreatDoorKit
import Derived.Test.YtdgmcpdphifmbaaGreatDoorAsc4
import Derived.Test.YtdgmcpdphifmbaaGreatDoorRow
import Derived.Test.YtdgmcpdphifmbaaGreatDoorTxt2
import Derived.Test.YtdgmcpdphifmbaaGreatDoorFp
import Derived.Test.YtdgmcpdphifmbaaGreatDoorMd1
import Derived.Test.YtdgmcpdphifmbaaGreatDoorPct3
import Derived.Test.YtdgmcpdphifmbaaGreatDoorHst1
import Derived.Test.YtdgmcpdphifmbaaGreatDoorUrl0
import Derived.Test.YtdgmcpdphifmbaaGreatDoorUrl3
import Derived.Test.YtdgmcpdphifmbaaGreatDoorUrl6
namespace Go.Proofs.YtdgmcpdphifmbaaGreatDoor
open Go.RowKit Go.Proofs
set_option maxRecDepth 100000

theorem Tryz.infoUrl : (Tryz.prog.info? 27).map (fun i => (i.zero, i.size)) = some (some (.agg #[.string ⟨#[]⟩, .string ⟨#[]⟩, .string ⟨#[]⟩, .string ⟨#[]⟩, .int .i64 0, .string ⟨#[]⟩, .bool false, .string ⟨#[]⟩, .bool false, .string ⟨#[]⟩]), 10) := by kernel_rfl

theorem Tryz.sizeUrl : (Tryz.prog.info? 27).map (·.size) = some 10 := by kernel_rfl

theorem Tryz.infoRdr : (Tryz.prog.info? 43).map (fun i => (i.zero, i.size)) = some (some (.agg #[.string ⟨#[]⟩, .string ⟨#[]⟩, .string ⟨#[]⟩, .string ⟨#[]⟩, .string ⟨#[]⟩, .int .i64 0, .string ⟨#[]⟩, .bool false, .string ⟨#[]⟩, .bool false, .string ⟨#[]⟩]), 11) := by kernel_rfl

def urlR (o : Option UrlM) : Value := .tuple #[urlV (o.getD urlZ), .int .i64 (urlE o)]

theorem url_one (u : UrlM) : (urlCells u).toArray.all (·.oneCell') = true := by
  refine all_oneCell_toArray fun v hv => ?_
  unfold urlCells at hv
  simp only [List.mem_cons, List.not_mem_nil, or_false] at hv
  rcases hv with rfl | rfl | rfl | rfl | rfl | rfl | rfl | rfl | rfl | rfl <;> rfl

theorem kept_g {w w1 w2 : World} {g : Nat} (hb : Below w.heap.size w w1) (hg : w.heap.size ≤ g) (hk : Kept (fun k => k = g) w1 w2) : Below w.heap.size w w2 := below_kg hb hk hg

set_option maxHeartbeats 2000000 in
theorem uparse_any (s : ByteArray) (hs : s.size ≤ 1073741824) (w : World) (hE : Env11 w) :
    Calls Tryz.prog 6 #[.string s] w fun e w' => e = .returned (urlR (urlP s.data.toList)) ∧ Below w.heap.size w w' := by
  have hz := zero_cells Tryz.infoUrl
  have hz2 := zero_cells Tryz.infoRdr
  obtain ⟨R, hR⟩ : ∃ R, R = urlP s.data.toList := ⟨_, rfl⟩
  rw [← hR]
  have HU := Lib.hid (fun W (hT : Tabs9 W) => utf8_any s hs W hT)
  have HE := Lib.hid hE
  have HR0 : Hid (Rw (w.alloc (.cells #[.string ⟨#[]⟩, .string ⟨#[]⟩, .string ⟨#[]⟩, .string ⟨#[]⟩, .int .i64 0, .string ⟨#[]⟩, .bool false, .string ⟨#[]⟩, .bool false, .string ⟨#[]⟩] 27)) 0 w.heap.size 27 (urlCells urlZ)) := Lib.hid (Rw.alloc w _ _ (Nat.zero_le _))
  have HB0 : Hid (Below w.heap.size w (w.alloc (.cells #[.string ⟨#[]⟩, .string ⟨#[]⟩, .string ⟨#[]⟩, .string ⟨#[]⟩, .int .i64 0, .string ⟨#[]⟩, .bool false, .string ⟨#[]⟩, .bool false, .string ⟨#[]⟩] 27))) := Lib.hid (below_more (Below.refl _ _) _)
  have HT0 := Lib.hid (env_below hE HB0.out).1
  clear hE
  by_cases hbig : 65536 < s.size
  · have HRN : Hid (R = none) := Lib.hid (by rw [hR]; unfold urlP; rw [if_neg (by rw [size_data]; omega)])
    have hbz : (65536 : Int) < (s.size : Int) := by omega
    clear hR hbig
    go_enter Tryz.func6, Tryz.ntmps6
    go_wp2_with (first | (refine wpList_alloc_z rfl 27 rfl #[.string ⟨#[]⟩, .string ⟨#[]⟩, .string ⟨#[]⟩, .string ⟨#[]⟩, .int .i64 0, .string ⟨#[]⟩, .bool false, .string ⟨#[]⟩, .bool false, .string ⟨#[]⟩] hz ?_) | (refine wpList_store_mid rfl 27 _ _ rfl w.heap.size 0 (urlCells urlZ).toArray rfl rfl (Rw.there HR0.out 0 _ (by simp [urlCells])) Tryz.sizeUrl (url_one _) ?_) | fail)
    have HEND := Lib.hid (Rw.storedAll HR0.out (urlCells urlZ) rfl)
    refine bodyPost_ret (v := .tuple #[urlV urlZ, .int .i64 8]) ?_ rfl ?_
    case refine_2 => rw [HRN.out]; exact ⟨rfl, below_stores HB0.out (Nat.le_refl _) _⟩
    exact results_row_tmp rfl _ _ w.heap.size 0 27 (urlCells urlZ) _ rfl HEND.out Tryz.underlying27 rfl Tryz.sizeUrl (.int .i64 8) rfl
  have hbz : ¬ (65536 : Int) < (s.size : Int) := by omega
  have hss : s.size ≤ 65536 := by omega
  cases hv : Lib.validD s.data.toList
  · have HRN : Hid (R = none) := Lib.hid (by rw [hR]; unfold urlP; rw [if_neg (by rintro ⟨_, h⟩; rw [hv] at h; exact absurd h (by decide))])
    rw [hv] at HU
    clear hR hbig hv
    go_enter Tryz.func6, Tryz.ntmps6
    go_wp2_with (first | (refine wpList_alloc_z rfl 27 rfl #[.string ⟨#[]⟩, .string ⟨#[]⟩, .string ⟨#[]⟩, .string ⟨#[]⟩, .int .i64 0, .string ⟨#[]⟩, .bool false, .string ⟨#[]⟩, .bool false, .string ⟨#[]⟩] hz ?_) | fail)
    refine (HU.out _ HT0.out).mono ?_
    rintro e w1 ⟨rfl, hb1⟩
    have HR1 := Lib.hid (Rw.below HR0.out hb1)
    have HB1 := Lib.hid (below_then HB0.out hb1)
    clear hb1
    go_wp2_with (first | (refine wpList_store_mid rfl 27 _ _ rfl w.heap.size 0 (urlCells urlZ).toArray rfl rfl (Rw.there HR1.out 0 _ (by simp [urlCells])) Tryz.sizeUrl (url_one _) ?_) | fail)
    have HEND := Lib.hid (Rw.storedAll HR1.out (urlCells urlZ) rfl)
    refine bodyPost_ret (v := .tuple #[urlV urlZ, .int .i64 8]) ?_ rfl ?_
    case refine_2 => rw [HRN.out]; exact ⟨rfl, below_stores HB1.out (Nat.le_refl _) _⟩
    exact results_row_tmp rfl _ _ w.heap.size 0 27 (urlCells urlZ) _ rfl HEND.out Tryz.underlying27 rfl Tryz.sizeUrl (.int .i64 8) rfl
  have hRR : R = bodyP (cleanL s.data.toList) := by rw [hR]; unfold urlP; rw [if_pos ⟨by rw [size_data]; exact hss, hv⟩]
  have HPR := Lib.hid (fun W (hW : Env11 W) => uprepare_any s hss hv W hW)
  obtain ⟨t, ht⟩ : ∃ t : ByteArray, t = ⟨(cleanL s.data.toList).toArray⟩ := ⟨_, rfl⟩
  have htl : t.data.toList = cleanL s.data.toList := by rw [ht]
  have hts : t.size ≤ 65536 := by
    have := clean_len s.data.toList
    rw [ht, mk_size]
    rw [size_data] at this
    omega
  have HPR2 : Hid (∀ W, Env11 W → Calls Tryz.prog 17 #[.string s] W fun e w' => e = .returned (.string t) ∧ Below W.heap.size W w') := Lib.hid (by
    intro W hW
    rw [ht]
    exact HPR.out W hW)
  rw [hv] at HU
  rw [← htl] at hRR
  clear hR hbig hv ht htl HPR
  obtain ⟨A, hA⟩ : ∃ A, A = schemeP t.data.toList := ⟨_, rfl⟩
  have HSCH := Lib.hid (fun (W : World) (g : Nat) (h : Rw W 0 g 43 (.string t :: urlCells urlZ)) => uscheme_any t hts h)
  rw [← hA] at HSCH
  have HSK : Hid (∀ x, A = some x → x.2.length ≤ 65536) := Lib.hid (by
    intro x hx
    rw [hx] at hA
    unfold schemeP at hA
    split at hA
    · injection hA with hA
      subst hA
      show (skipL _).length ≤ _
      unfold skipL
      refine Nat.le_trans (List.dropWhile_sublist _).length_le ?_
      rw [List.length_drop]
      have := from_len [58] t.data.toList
      rw [size_data] at this
      omega
    · exact absurd hA (by simp))
  unfold bodyP at hRR
  rw [← hA] at hRR
  clear hA
  cases A with
  | none =>
    have HRN : Hid (R = none) := Lib.hid hRR
    clear hRR
    go_enter Tryz.func6, Tryz.ntmps6
    go_wp2_with (first | (refine wpList_alloc_z rfl 27 rfl #[.string ⟨#[]⟩, .string ⟨#[]⟩, .string ⟨#[]⟩, .string ⟨#[]⟩, .int .i64 0, .string ⟨#[]⟩, .bool false, .string ⟨#[]⟩, .bool false, .string ⟨#[]⟩] hz ?_) | fail)
    refine (HU.out _ HT0.out).mono ?_
    rintro e w1 ⟨rfl, hb1⟩
    have HR1 := Lib.hid (Rw.below HR0.out hb1)
    have HB1 := Lib.hid (below_then HB0.out hb1)
    clear hb1
    go_wp2_with fail
    refine (HPR2.out _ (env_below HE.out HB1.out)).mono ?_
    rintro e w2 ⟨rfl, hb2⟩
    have HR2 := Lib.hid (Rw.below HR1.out hb2)
    have HB2 := Lib.hid (below_then HB1.out hb2)
    have HRD : Hid (Rw (w2.alloc (.cells #[.string t, .string ⟨#[]⟩, .string ⟨#[]⟩, .string ⟨#[]⟩, .string ⟨#[]⟩, .int .i64 0, .string ⟨#[]⟩, .bool false, .string ⟨#[]⟩, .bool false, .string ⟨#[]⟩] 43)) 0 w2.heap.size 43 (.string t :: urlCells urlZ)) := Lib.hid (Rw.alloc w2 _ _ (Nat.zero_le _))
    have HR3 := Lib.hid (Rw.more HR2.out (.cells #[.string t, .string ⟨#[]⟩, .string ⟨#[]⟩, .string ⟨#[]⟩, .string ⟨#[]⟩, .int .i64 0, .string ⟨#[]⟩, .bool false, .string ⟨#[]⟩, .bool false, .string ⟨#[]⟩] 43))
    have HB3 := Lib.hid (below_more HB2.out (.cells #[.string t, .string ⟨#[]⟩, .string ⟨#[]⟩, .string ⟨#[]⟩, .string ⟨#[]⟩, .int .i64 0, .string ⟨#[]⟩, .bool false, .string ⟨#[]⟩, .bool false, .string ⟨#[]⟩] 43))
    have HGW := Lib.hid (Rw.size HR2.out)
    have HGL := Lib.hid HB2.out.size
    clear hb2
    go_wp2_with (first | (refine wpList_alloc_z rfl 43 rfl #[.string ⟨#[]⟩, .string ⟨#[]⟩, .string ⟨#[]⟩, .string ⟨#[]⟩, .string ⟨#[]⟩, .int .i64 0, .string ⟨#[]⟩, .bool false, .string ⟨#[]⟩, .bool false, .string ⟨#[]⟩] hz2 ?_) | fail)
    refine (HSCH.out _ _ HRD.out).mono ?_
    rintro e w4 ⟨rfl, hk4⟩
    have HR4 := Lib.hid (rw_kept HR3.out hk4 (by have := HGW.out; omega))
    have HB4 := Lib.hid (kept_g HB3.out HGL.out hk4)
    clear hk4
    go_wp2_with (first | (refine wpList_store_mid rfl 27 _ _ rfl w.heap.size 0 (urlCells urlZ).toArray rfl rfl (Rw.there HR4.out 0 _ (by simp [urlCells])) Tryz.sizeUrl (url_one _) ?_) | fail)
    have HEND := Lib.hid (Rw.storedAll HR4.out (urlCells urlZ) rfl)
    refine bodyPost_ret (v := .tuple #[urlV urlZ, .int .i64 8]) ?_ rfl ?_
    case refine_2 => rw [HRN.out]; exact ⟨rfl, below_stores HB4.out (Nat.le_refl _) _⟩
    exact results_row_tmp rfl _ _ w.heap.size 0 27 (urlCells urlZ) _ rfl HEND.out Tryz.underlying27 rfl Tryz.sizeUrl (.int .i64 8) rfl
  | some x =>
    have hRR2 : R = (authP x.1 (upL authE x.2)).map fun a => tailP x.1 a (fromL authE x.2) := hRR
    obtain ⟨y, hy⟩ : ∃ y : ByteArray, y = ⟨x.2.toArray⟩ := ⟨_, rfl⟩
    have hyl : y.data.toList = x.2 := by rw [hy]
    have hys : y.size ≤ 65536 := by rw [hy, mk_size]; exact HSK.out x rfl
    have HYS : Hid (strL x.2 = .string y) := Lib.hid (by rw [hy]; rfl)
    rw [← hyl] at hRR2
    obtain ⟨B, hB⟩ : ∃ B, B = authP x.1 (upL authE y.data.toList) := ⟨_, rfl⟩
    have HAU := Lib.hid (fun (W : World) (g : Nat) (hBl : Below w.heap.size w W) (hg : w.heap.size ≤ g) (h : Rw W 0 g 43 (.string y :: urlCells { urlZ with sch := x.1 })) => uauth_any (u := { urlZ with sch := x.1 }) rfl rfl HE.out hBl hg y hys h)
    have HAU2 : Hid (∀ (W : World) (g : Nat), Below w.heap.size w W → w.heap.size ≤ g → Rw W 0 g 43 (.string y :: urlCells { urlZ with sch := x.1 }) → Calls Tryz.prog 19 #[.pointer (some ⟨g, 0, none⟩)] W fun e w' => AutV W w' g { urlZ with sch := x.1 } e (fromL authE y.data.toList) B) := Lib.hid (by
      intro W g h1 h2 h3
      rw [hB]
      exact HAU.out W g h1 h2 h3)
    rw [← hB] at hRR2
    clear hRR hy hyl hB HAU HSK
    go_enter Tryz.func6, Tryz.ntmps6
    go_wp2_with (first | (refine wpList_alloc_z rfl 27 rfl #[.string ⟨#[]⟩, .string ⟨#[]⟩, .string ⟨#[]⟩, .string ⟨#[]⟩, .int .i64 0, .string ⟨#[]⟩, .bool false, .string ⟨#[]⟩, .bool false, .string ⟨#[]⟩] hz ?_) | fail)
    refine (HU.out _ HT0.out).mono ?_
    rintro e w1 ⟨rfl, hb1⟩
    have HR1 := Lib.hid (Rw.below HR0.out hb1)
    have HB1 := Lib.hid (below_then HB0.out hb1)
    clear hb1
    go_wp2_with fail
    refine (HPR2.out _ (env_below HE.out HB1.out)).mono ?_
    rintro e w2 ⟨rfl, hb2⟩
    have HR2 := Lib.hid (Rw.below HR1.out hb2)
    have HB2 := Lib.hid (below_then HB1.out hb2)
    have HRD : Hid (Rw (w2.alloc (.cells #[.string t, .string ⟨#[]⟩, .string ⟨#[]⟩, .string ⟨#[]⟩, .string ⟨#[]⟩, .int .i64 0, .string ⟨#[]⟩, .bool false, .string ⟨#[]⟩, .bool false, .string ⟨#[]⟩] 43)) 0 w2.heap.size 43 (.string t :: urlCells urlZ)) := Lib.hid (Rw.alloc w2 _ _ (Nat.zero_le _))
    have HR3 := Lib.hid (Rw.more HR2.out (.cells #[.string t, .string ⟨#[]⟩, .string ⟨#[]⟩, .string ⟨#[]⟩, .string ⟨#[]⟩, .int .i64 0, .string ⟨#[]⟩, .bool false, .string ⟨#[]⟩, .bool false, .string ⟨#[]⟩] 43))
    have HB3 := Lib.hid (below_more HB2.out (.cells #[.string t, .string ⟨#[]⟩, .string ⟨#[]⟩, .string ⟨#[]⟩, .string ⟨#[]⟩, .int .i64 0, .string ⟨#[]⟩, .bool false, .string ⟨#[]⟩, .bool false, .string ⟨#[]⟩] 43))
    have HGW := Lib.hid (Rw.size HR2.out)
    have HGL := Lib.hid HB2.out.size
    clear hb2
    go_wp2_with (first | (refine wpList_alloc_z rfl 43 rfl #[.string ⟨#[]⟩, .string ⟨#[]⟩, .string ⟨#[]⟩, .string ⟨#[]⟩, .string ⟨#[]⟩, .int .i64 0, .string ⟨#[]⟩, .bool false, .string ⟨#[]⟩, .bool false, .string ⟨#[]⟩] hz2 ?_) | fail)
    refine (HSCH.out _ _ HRD.out).mono ?_
    rintro e w4 ⟨rfl, hv4⟩
    have HR4 := Lib.hid (rw_kept HR3.out hv4.2 (by have := HGW.out; omega))
    have HB4 := Lib.hid (kept_g HB3.out HGL.out hv4.2)
    have hrow := hv4.1
    rw [HYS.out] at hrow
    have HROW := Lib.hid hrow
    clear hv4 hrow
    go_wp2_with fail
    refine (HAU2.out _ _ HB4.out HGL.out HROW.out).mono ?_
    cases B with
    | none =>
      have HRN : Hid (R = none) := Lib.hid hRR2
      clear hRR2
      rintro e w5 ⟨rfl, hk5⟩
      have HR5 := Lib.hid (rw_kept HR4.out hk5 (by have := HGW.out; omega))
      have HB5 := Lib.hid (kept_g HB4.out HGL.out hk5)
      clear hk5
      go_wp2_with (first | (refine wpList_store_mid rfl 27 _ _ rfl w.heap.size 0 (urlCells urlZ).toArray rfl rfl (Rw.there HR5.out 0 _ (by simp [urlCells])) Tryz.sizeUrl (url_one _) ?_) | fail)
      have HEND := Lib.hid (Rw.storedAll HR5.out (urlCells urlZ) rfl)
      refine bodyPost_ret (v := .tuple #[urlV urlZ, .int .i64 8]) ?_ rfl ?_
      case refine_2 => rw [HRN.out]; exact ⟨rfl, below_stores HB5.out (Nat.le_refl _) _⟩
      exact results_row_tmp rfl _ _ w.heap.size 0 27 (urlCells urlZ) _ rfl HEND.out Tryz.underlying27 rfl Tryz.sizeUrl (.int .i64 8) rfl
    | some a =>
      rintro e w5 ⟨rfl, hv5⟩
      obtain ⟨p, hp⟩ : ∃ p : ByteArray, p = ⟨(fromL authE y.data.toList).toArray⟩ := ⟨_, rfl⟩
      have hpl : p.data.toList = fromL authE y.data.toList := by rw [hp]
      have hps : p.size ≤ 65536 := by
        have := from_len authE y.data.toList
        rw [hp, mk_size]
        rw [size_data] at this
        omega
      obtain ⟨q, hq⟩ : ∃ q : ByteArray, q = ⟨(fromL pathE p.data.toList).toArray⟩ := ⟨_, rfl⟩
      have hql : q.data.toList = fromL pathE p.data.toList := by rw [hq]
      have hqs : q.size ≤ 65536 := by
        have := from_len pathE p.data.toList
        rw [hq, mk_size]
        rw [size_data] at this
        omega
      obtain ⟨r, hr⟩ : ∃ r : ByteArray, r = ⟨(queryP q.data.toList).2.2.toArray⟩ := ⟨_, rfl⟩
      have hrl : r.data.toList = (queryP q.data.toList).2.2 := by rw [hr]
      have hrs : r.size ≤ 65536 := by
        rw [hr, mk_size]
        unfold queryP
        split
        · have := from_len [35] (q.data.toList.drop 1)
          rw [List.length_drop, size_data] at this
          show (fromL [35] (q.data.toList.drop 1)).length ≤ _
          omega
        · show q.data.toList.length ≤ _
          rw [size_data]
          exact hqs
      obtain ⟨v, hvv⟩ : ∃ v : UrlM, v = { urlZ with sch := x.1, usr := a.usr, pas := a.pas, hos := a.hos, prt := a.prt } := ⟨_, rfl⟩
      have HR5 := Lib.hid (rw_kept HR4.out hv5.2 (by have := HGW.out; omega))
      have HB5 := Lib.hid (kept_g HB4.out HGL.out hv5.2)
      have hrow5 : Rw w5 0 w2.heap.size 43 (.string p :: urlCells v) := by
        have := hv5.1
        rw [show strL (fromL authE y.data.toList) = .string p by rw [hp]; rfl] at this
        rw [hvv]
        exact this
      have HPA := Lib.hid (upath_any HE.out HB5.out HGL.out p hps hrow5)
      have HRS : Hid (R = some { { { v with pth := pathP (upL pathE p.data.toList) } with hq := (queryP q.data.toList).1, qry := (queryP q.data.toList).2.1 } with hf := (fragP r.data.toList).1, frg := (fragP r.data.toList).2 }) := Lib.hid (by
        rw [hRR2, hrl, hql, hpl, hvv]
        rfl)
      have HQS : Hid (strL (fromL pathE p.data.toList) = .string q) := Lib.hid (by rw [hq]; rfl)
      have HRSS : Hid (strL (queryP q.data.toList).2.2 = .string r) := Lib.hid (by rw [hr]; rfl)
      have HV1 : Hid (v.hq = false ∧ v.qry = [] ∧ v.hf = false ∧ v.frg = []) := Lib.hid (by rw [hvv]; exact ⟨rfl, rfl, rfl, rfl⟩)
      clear hv5 hrow5 hp hq hr hpl hql hrl hvv hRR2
      go_wp2_with fail
      refine HPA.out.mono ?_
      rintro e w6 ⟨rfl, hv6⟩
      have HR6 := Lib.hid (rw_kept HR5.out hv6.2 (by have := HGW.out; omega))
      have HB6 := Lib.hid (kept_g HB5.out HGL.out hv6.2)
      have hrow6 := hv6.1
      rw [HQS.out] at hrow6
      have HQU := Lib.hid (uquery_any (u := { v with pth := pathP (upL pathE p.data.toList) }) HV1.out.1 HV1.out.2.1 q hqs hrow6)
      clear hv6 hrow6
      go_wp2_with fail
      refine HQU.out.mono ?_
      rintro e w7 ⟨rfl, hv7⟩
      have HR7 := Lib.hid (rw_kept HR6.out hv7.2 (by have := HGW.out; omega))
      have HB7 := Lib.hid (kept_g HB6.out HGL.out hv7.2)
      have hrow7 := hv7.1
      rw [HRSS.out] at hrow7
      have HFR := Lib.hid (ufrag_any (u := { { v with pth := pathP (upL pathE p.data.toList) } with hq := (queryP q.data.toList).1, qry := (queryP q.data.toList).2.1 }) HV1.out.2.2.1 HV1.out.2.2.2 r hrs hrow7)
      obtain ⟨z, hzz⟩ : ∃ z : UrlM, z = { { { v with pth := pathP (upL pathE p.data.toList) } with hq := (queryP q.data.toList).1, qry := (queryP q.data.toList).2.1 } with hf := (fragP r.data.toList).1, frg := (fragP r.data.toList).2 } := ⟨_, rfl⟩
      have HRZ : Hid (R = some z) := Lib.hid (by rw [hzz]; exact HRS.out)
      have HFR2 : Hid (Calls Tryz.prog 22 #[.pointer (some ⟨w2.heap.size, 0, none⟩)] w7 fun e w' => e = .returned (.tuple #[]) ∧ ∃ l, RestV w7 w' w2.heap.size 43 (urlCells z) l) := Lib.hid (by rw [hzz]; exact HFR.out)
      clear hv7 hrow7 hzz HRS HFR
      go_wp2_with fail
      refine HFR2.out.mono ?_
      rintro e w8 ⟨rfl, l8, hv8⟩
      have HR8 := Lib.hid (rw_kept HR7.out hv8.2 (by have := HGW.out; omega))
      have HB8 := Lib.hid (kept_g HB7.out HGL.out hv8.2)
      have HRG : Hid (w8.rangeAt w2.heap.size 1 (urlCells z)) := Lib.hid (Rw.range hv8.1 1 (urlCells z) (fun j v hj => by rw [Nat.add_comm]; exact hj))
      clear hv8
      go_wp2_with (first | (refine wpList_load_mid rfl 27 _ rfl w2.heap.size 1 rfl (urlCells z) _ HRG.out Tryz.underlying27 rfl Tryz.sizeUrl ?_) | (refine wpList_store_mid rfl 27 _ _ rfl w.heap.size 0 (urlCells z).toArray rfl rfl (Rw.there HR8.out 0 _ (by simp [urlCells])) Tryz.sizeUrl (url_one _) ?_) | fail)
      have HEND := Lib.hid (Rw.storedAll HR8.out (urlCells z) rfl)
      refine bodyPost_ret (v := .tuple #[urlV z, .int .i64 0]) ?_ rfl ?_
      case refine_2 => rw [HRZ.out]; exact ⟨rfl, below_stores HB8.out (Nat.le_refl _) _⟩
      exact results_row_tmp rfl _ _ w.heap.size 0 27 (urlCells z) _ rfl HEND.out Tryz.underlying27 rfl Tryz.sizeUrl (.int .i64 0) rfl

theorem cell_stays {w w' : World} {a : Addr} {v : Value} (h : w.cell? a = some v) (hb : Below w.heap.size w w') : w'.cell? a = some v := by
  obtain ⟨b, o, m⟩ := a
  rcases Nat.lt_or_ge b w.heap.size with hl | hl
  · unfold World.cell? at h ⊢
    rw [hb.block b hl]
    exact h
  · exfalso
    unfold World.cell? at h
    rw [Array.getElem?_eq_none hl] at h
    cases h

end Go.Proofs.YtdgmcpdphifmbaaGreatDoor
