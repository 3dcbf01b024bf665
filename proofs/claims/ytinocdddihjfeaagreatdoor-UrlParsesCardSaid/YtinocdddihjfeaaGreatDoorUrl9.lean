/- Parse and Port. -/
import Derived.Test.YtinocdddihjfeaaGreatDoorShelf
import Derived.Deep.MidRow
import Derived.BigQuiet
import Derived.BigRegion
import Derived.Deep.RegionHeld3
import Derived.Lib.ItoaLen
import Derived.Test.YtinocdddihjfeaaGreatDoorProg
import Derived.Test.YtinocdddihjfeaaGreatDoorKit
import Derived.Test.YtinocdddihjfeaaGreatDoorAsc4
import Derived.Test.YtinocdddihjfeaaGreatDoorRow
import Derived.Test.YtinocdddihjfeaaGreatDoorRow2
import Derived.Test.YtinocdddihjfeaaGreatDoorCod8
import Derived.Test.YtinocdddihjfeaaGreatDoorTxt2
import Derived.Test.YtinocdddihjfeaaGreatDoorFp
import Derived.Test.YtinocdddihjfeaaGreatDoorMd1
import Derived.Test.YtinocdddihjfeaaGreatDoorPct3
import Derived.Test.YtinocdddihjfeaaGreatDoorHst1
import Derived.Test.YtinocdddihjfeaaGreatDoorHst6
import Derived.Test.YtinocdddihjfeaaGreatDoorUrl0
import Derived.Test.YtinocdddihjfeaaGreatDoorUrl3
import Derived.Test.YtinocdddihjfeaaGreatDoorUrl6
namespace Go.Proofs.YtinocdddihjfeaaGreatDoor
open Go.RowKit Go.Proofs
set_option maxRecDepth 100000

theorem Tryz.infoUrl : (Tryz.prog.info? 24).map (fun i => (i.zero, i.size)) = some (some (.agg #[.string ⟨#[]⟩, .string ⟨#[]⟩, .string ⟨#[]⟩, .string ⟨#[]⟩, .int .i64 0, .string ⟨#[]⟩, .bool false, .string ⟨#[]⟩, .bool false, .string ⟨#[]⟩]), 10) := by kernel_rfl

theorem Tryz.sizeUrl : (Tryz.prog.info? 24).map (·.size) = some 10 := by kernel_rfl

theorem Tryz.infoRdr : (Tryz.prog.info? 39).map (fun i => (i.zero, i.size)) = some (some (.agg #[.string ⟨#[]⟩, .string ⟨#[]⟩, .string ⟨#[]⟩, .string ⟨#[]⟩, .string ⟨#[]⟩, .int .i64 0, .string ⟨#[]⟩, .bool false, .string ⟨#[]⟩, .bool false, .string ⟨#[]⟩]), 11) := by kernel_rfl

theorem Tryz.sizeRdr : (Tryz.prog.info? 39).map (·.size) = some 11 := by kernel_rfl

def urlR (o : Option UrlM) : Value := .tuple #[urlV (o.getD urlZ), .int .i64 (urlE o)]

theorem url_one (u : UrlM) : (urlCells u).toArray.all (·.oneCell') = true := by
  refine all_oneCell_toArray fun v hv => ?_
  unfold urlCells at hv
  simp only [List.mem_cons, List.not_mem_nil, or_false] at hv
  rcases hv with rfl | rfl | rfl | rfl | rfl | rfl | rfl | rfl | rfl | rfl <;> rfl

theorem kept_g {w w1 w2 : World} {g : Nat} (hb : Below w.heap.size w w1) (hg : w.heap.size ≤ g) (hk : Kept (fun k => k = g) w1 w2) : Below w.heap.size w w2 := below_kg hb hk hg

set_option maxHeartbeats 2000000 in
theorem uparse_any (s : ByteArray) (hs : s.size ≤ 1073741824) (w : World) (hE : Env11 w) :
    Calls Tryz.prog 6 #[.string s] w fun e w' => e = .returned (urlR (urlP s.data.toList)) ∧ Below w.heap.size w w' := by
  have hz := zero_cells Tryz.infoUrl
  have hz2 := zero_cells Tryz.infoRdr
  obtain ⟨R, hR⟩ : ∃ R, R = urlP s.data.toList := ⟨_, rfl⟩
  rw [← hR]
  have HU := Lib.hid (fun W (hT : Tabs9 W) => utf8_any s hs W hT)
  have HE := Lib.hid hE
  have HR0 : Hid (Rw (w.alloc (.cells #[.string ⟨#[]⟩, .string ⟨#[]⟩, .string ⟨#[]⟩, .string ⟨#[]⟩, .int .i64 0, .string ⟨#[]⟩, .bool false, .string ⟨#[]⟩, .bool false, .string ⟨#[]⟩] 24)) 0 w.heap.size 24 (urlCells urlZ)) := Lib.hid (Rw.alloc w _ _ (Nat.zero_le _))
  have HB0 : Hid (Below w.heap.size w (w.alloc (.cells #[.string ⟨#[]⟩, .string ⟨#[]⟩, .string ⟨#[]⟩, .string ⟨#[]⟩, .int .i64 0, .string ⟨#[]⟩, .bool false, .string ⟨#[]⟩, .bool false, .string ⟨#[]⟩] 24))) := Lib.hid (below_more (Below.refl _ _) _)
  have HT0 := Lib.hid (env_below hE HB0.out).1
  clear hE
  by_cases hbig : 65536 < s.size
  · have HRN : Hid (R = none) := Lib.hid (by rw [hR]; unfold urlP; rw [if_neg (by rw [size_data]; omega)])
    have hbz : (65536 : Int) < (s.size : Int) := by omega
    clear hR hbig
    go_enter Tryz.func6, Tryz.ntmps6
    go_wp2_with (first | (refine wpList_alloc_z rfl 24 rfl #[.string ⟨#[]⟩, .string ⟨#[]⟩, .string ⟨#[]⟩, .string ⟨#[]⟩, .int .i64 0, .string ⟨#[]⟩, .bool false, .string ⟨#[]⟩, .bool false, .string ⟨#[]⟩] hz ?_) | (refine wpList_store_mid rfl 24 _ _ rfl w.heap.size 0 (urlCells urlZ).toArray rfl rfl (Rw.there HR0.out 0 _ (by simp [urlCells])) Tryz.sizeUrl (url_one _) ?_) | fail)
    have HEND := Lib.hid (Rw.storedAll HR0.out (urlCells urlZ) rfl)
    refine bodyPost_ret (v := .tuple #[urlV urlZ, .int .i64 8]) ?_ rfl ?_
    case refine_2 => rw [HRN.out]; exact ⟨rfl, below_stores HB0.out (Nat.le_refl _) _⟩
    exact results_row_tmp rfl _ _ w.heap.size 0 24 (urlCells urlZ) _ rfl HEND.out Tryz.underlying24 rfl Tryz.sizeUrl (.int .i64 8) rfl
  have hbz : ¬ (65536 : Int) < (s.size : Int) := by omega
  have hss : s.size ≤ 65536 := by omega
  cases hv : Lib.validD s.data.toList
  · have HRN : Hid (R = none) := Lib.hid (by rw [hR]; unfold urlP; rw [if_neg (by rintro ⟨_, h⟩; rw [hv] at h; exact absurd h (by decide))])
    rw [hv] at HU
    clear hR hbig hv
    go_enter Tryz.func6, Tryz.ntmps6
    go_wp2_with (first | (refine wpList_alloc_z rfl 24 rfl #[.string ⟨#[]⟩, .string ⟨#[]⟩, .string ⟨#[]⟩, .string ⟨#[]⟩, .int .i64 0, .string ⟨#[]⟩, .bool false, .string ⟨#[]⟩, .bool false, .string ⟨#[]⟩] hz ?_) | fail)
    refine (HU.out _ HT0.out).mono ?_
    rintro e w1 ⟨rfl, hb1⟩
    have HR1 := Lib.hid (Rw.below HR0.out hb1)
    have HB1 := Lib.hid (below_then HB0.out hb1)
    clear hb1
    go_wp2_with (first | (refine wpList_store_mid rfl 24 _ _ rfl w.heap.size 0 (urlCells urlZ).toArray rfl rfl (Rw.there HR1.out 0 _ (by simp [urlCells])) Tryz.sizeUrl (url_one _) ?_) | fail)
    have HEND := Lib.hid (Rw.storedAll HR1.out (urlCells urlZ) rfl)
    refine bodyPost_ret (v := .tuple #[urlV urlZ, .int .i64 8]) ?_ rfl ?_
    case refine_2 => rw [HRN.out]; exact ⟨rfl, below_stores HB1.out (Nat.le_refl _) _⟩
    exact results_row_tmp rfl _ _ w.heap.size 0 24 (urlCells urlZ) _ rfl HEND.out Tryz.underlying24 rfl Tryz.sizeUrl (.int .i64 8) rfl
  have hRR : R = bodyP (cleanL s.data.toList) := by rw [hR]; unfold urlP; rw [if_pos ⟨by rw [size_data]; exact hss, hv⟩]
  have HPR := Lib.hid (fun W (hW : Env11 W) => uprepare_any s hss hv W hW)
  obtain ⟨t, ht⟩ : ∃ t : ByteArray, t = ⟨(cleanL s.data.toList).toArray⟩ := ⟨_, rfl⟩
  have htl : t.data.toList = cleanL s.data.toList := by rw [ht]
  have hts : t.size ≤ 65536 := by
    have := clean_len s.data.toList
    rw [ht, mk_size]
    rw [size_data] at this
    omega
  have HPR2 : Hid (∀ W, Env11 W → Calls Tryz.prog 16 #[.string s] W fun e w' => e = .returned (.string t) ∧ Below W.heap.size W w') := Lib.hid (by
    intro W hW
    rw [ht]
    exact HPR.out W hW)
  rw [hv] at HU
  rw [← htl] at hRR
  clear hR hbig hv ht htl HPR
  obtain ⟨A, hA⟩ : ∃ A, A = schemeP t.data.toList := ⟨_, rfl⟩
  have HSCH := Lib.hid (fun (W : World) (g : Nat) (h : Rw W 0 g 39 (.string t :: urlCells urlZ)) => uscheme_any t hts h)
  rw [← hA] at HSCH
  have HSK : Hid (∀ x, A = some x → x.2.length ≤ 65536) := Lib.hid (by
    intro x hx
    rw [hx] at hA
    unfold schemeP at hA
    split at hA
    · injection hA with hA
      subst hA
      show (skipL _).length ≤ _
      unfold skipL
      refine Nat.le_trans (List.dropWhile_sublist _).length_le ?_
      rw [List.length_drop]
      have := from_len [58] t.data.toList
      rw [size_data] at this
      omega
    · exact absurd hA (by simp))
  unfold bodyP at hRR
  rw [← hA] at hRR
  clear hA
  cases A with
  | none =>
    have HRN : Hid (R = none) := Lib.hid hRR
    clear hRR
    go_enter Tryz.func6, Tryz.ntmps6
    go_wp2_with (first | (refine wpList_alloc_z rfl 24 rfl #[.string ⟨#[]⟩, .string ⟨#[]⟩, .string ⟨#[]⟩, .string ⟨#[]⟩, .int .i64 0, .string ⟨#[]⟩, .bool false, .string ⟨#[]⟩, .bool false, .string ⟨#[]⟩] hz ?_) | fail)
    refine (HU.out _ HT0.out).mono ?_
    rintro e w1 ⟨rfl, hb1⟩
    have HR1 := Lib.hid (Rw.below HR0.out hb1)
    have HB1 := Lib.hid (below_then HB0.out hb1)
    clear hb1
    go_wp2_with fail
    refine (HPR2.out _ (env_below HE.out HB1.out)).mono ?_
    rintro e w2 ⟨rfl, hb2⟩
    have HR2 := Lib.hid (Rw.below HR1.out hb2)
    have HB2 := Lib.hid (below_then HB1.out hb2)
    have HRD : Hid (Rw (w2.alloc (.cells #[.string t, .string ⟨#[]⟩, .string ⟨#[]⟩, .string ⟨#[]⟩, .string ⟨#[]⟩, .int .i64 0, .string ⟨#[]⟩, .bool false, .string ⟨#[]⟩, .bool false, .string ⟨#[]⟩] 39)) 0 w2.heap.size 39 (.string t :: urlCells urlZ)) := Lib.hid (Rw.alloc w2 _ _ (Nat.zero_le _))
    have HR3 := Lib.hid (Rw.more HR2.out (.cells #[.string t, .string ⟨#[]⟩, .string ⟨#[]⟩, .string ⟨#[]⟩, .string ⟨#[]⟩, .int .i64 0, .string ⟨#[]⟩, .bool false, .string ⟨#[]⟩, .bool false, .string ⟨#[]⟩] 39))
    have HB3 := Lib.hid (below_more HB2.out (.cells #[.string t, .string ⟨#[]⟩, .string ⟨#[]⟩, .string ⟨#[]⟩, .string ⟨#[]⟩, .int .i64 0, .string ⟨#[]⟩, .bool false, .string ⟨#[]⟩, .bool false, .string ⟨#[]⟩] 39))
    have HGW := Lib.hid (Rw.size HR2.out)
    have HGL := Lib.hid HB2.out.size
    clear hb2
    go_wp2_with (first | (refine wpList_alloc_z rfl 39 rfl #[.string ⟨#[]⟩, .string ⟨#[]⟩, .string ⟨#[]⟩, .string ⟨#[]⟩, .string ⟨#[]⟩, .int .i64 0, .string ⟨#[]⟩, .bool false, .string ⟨#[]⟩, .bool false, .string ⟨#[]⟩] hz2 ?_) | fail)
    refine (HSCH.out _ _ HRD.out).mono ?_
    rintro e w4 ⟨rfl, hk4⟩
    have HR4 := Lib.hid (rw_kept HR3.out hk4 (by have := HGW.out; omega))
    have HB4 := Lib.hid (kept_g HB3.out HGL.out hk4)
    clear hk4
    go_wp2_with (first | (refine wpList_store_mid rfl 24 _ _ rfl w.heap.size 0 (urlCells urlZ).toArray rfl rfl (Rw.there HR4.out 0 _ (by simp [urlCells])) Tryz.sizeUrl (url_one _) ?_) | fail)
    have HEND := Lib.hid (Rw.storedAll HR4.out (urlCells urlZ) rfl)
    refine bodyPost_ret (v := .tuple #[urlV urlZ, .int .i64 8]) ?_ rfl ?_
    case refine_2 => rw [HRN.out]; exact ⟨rfl, below_stores HB4.out (Nat.le_refl _) _⟩
    exact results_row_tmp rfl _ _ w.heap.size 0 24 (urlCells urlZ) _ rfl HEND.out Tryz.underlying24 rfl Tryz.sizeUrl (.int .i64 8) rfl
  | some x =>
    have hRR2 : R = (authP x.1 (upL authE x.2)).map fun a => tailP x.1 a (fromL authE x.2) := hRR
    obtain ⟨y, hy⟩ : ∃ y : ByteArray, y = ⟨x.2.toArray⟩ := ⟨_, rfl⟩
    have hyl : y.data.toList = x.2 := by rw [hy]
    have hys : y.size ≤ 65536 := by rw [hy, mk_size]; exact HSK.out x rfl
    have HYS : Hid (strL x.2 = .string y) := Lib.hid (by rw [hy]; rfl)
    rw [← hyl] at hRR2
    obtain ⟨B, hB⟩ : ∃ B, B = authP x.1 (upL authE y.data.toList) := ⟨_, rfl⟩
    have HAU := Lib.hid (fun (W : World) (g : Nat) (hBl : Below w.heap.size w W) (hg : w.heap.size ≤ g) (h : Rw W 0 g 39 (.string y :: urlCells { urlZ with sch := x.1 })) => uauth_any (u := { urlZ with sch := x.1 }) rfl rfl HE.out hBl hg y hys h)
    have HAU2 : Hid (∀ (W : World) (g : Nat), Below w.heap.size w W → w.heap.size ≤ g → Rw W 0 g 39 (.string y :: urlCells { urlZ with sch := x.1 }) → Calls Tryz.prog 18 #[.pointer (some ⟨g, 0, none⟩)] W fun e w' => AutV W w' g { urlZ with sch := x.1 } e (fromL authE y.data.toList) B) := Lib.hid (by
      intro W g h1 h2 h3
      rw [hB]
      exact HAU.out W g h1 h2 h3)
    rw [← hB] at hRR2
    clear hRR hy hyl hB HAU HSK
    go_enter Tryz.func6, Tryz.ntmps6
    go_wp2_with (first | (refine wpList_alloc_z rfl 24 rfl #[.string ⟨#[]⟩, .string ⟨#[]⟩, .string ⟨#[]⟩, .string ⟨#[]⟩, .int .i64 0, .string ⟨#[]⟩, .bool false, .string ⟨#[]⟩, .bool false, .string ⟨#[]⟩] hz ?_) | fail)
    refine (HU.out _ HT0.out).mono ?_
    rintro e w1 ⟨rfl, hb1⟩
    have HR1 := Lib.hid (Rw.below HR0.out hb1)
    have HB1 := Lib.hid (below_then HB0.out hb1)
    clear hb1
    go_wp2_with fail
    refine (HPR2.out _ (env_below HE.out HB1.out)).mono ?_
    rintro e w2 ⟨rfl, hb2⟩
    have HR2 := Lib.hid (Rw.below HR1.out hb2)
    have HB2 := Lib.hid (below_then HB1.out hb2)
    have HRD : Hid (Rw (w2.alloc (.cells #[.string t, .string ⟨#[]⟩, .string ⟨#[]⟩, .string ⟨#[]⟩, .string ⟨#[]⟩, .int .i64 0, .string ⟨#[]⟩, .bool false, .string ⟨#[]⟩, .bool false, .string ⟨#[]⟩] 39)) 0 w2.heap.size 39 (.string t :: urlCells urlZ)) := Lib.hid (Rw.alloc w2 _ _ (Nat.zero_le _))
    have HR3 := Lib.hid (Rw.more HR2.out (.cells #[.string t, .string ⟨#[]⟩, .string ⟨#[]⟩, .string ⟨#[]⟩, .string ⟨#[]⟩, .int .i64 0, .string ⟨#[]⟩, .bool false, .string ⟨#[]⟩, .bool false, .string ⟨#[]⟩] 39))
    have HB3 := Lib.hid (below_more HB2.out (.cells #[.string t, .string ⟨#[]⟩, .string ⟨#[]⟩, .string ⟨#[]⟩, .string ⟨#[]⟩, .int .i64 0, .string ⟨#[]⟩, .bool false, .string ⟨#[]⟩, .bool false, .string ⟨#[]⟩] 39))
    have HGW := Lib.hid (Rw.size HR2.out)
    have HGL := Lib.hid HB2.out.size
    clear hb2
    go_wp2_with (first | (refine wpList_alloc_z rfl 39 rfl #[.string ⟨#[]⟩, .string ⟨#[]⟩, .string ⟨#[]⟩, .string ⟨#[]⟩, .string ⟨#[]⟩, .int .i64 0, .string ⟨#[]⟩, .bool false, .string ⟨#[]⟩, .bool false, .string ⟨#[]⟩] hz2 ?_) | fail)
    refine (HSCH.out _ _ HRD.out).mono ?_
    rintro e w4 ⟨rfl, hv4⟩
    have HR4 := Lib.hid (rw_kept HR3.out hv4.2 (by have := HGW.out; omega))
    have HB4 := Lib.hid (kept_g HB3.out HGL.out hv4.2)
    have hrow := hv4.1
    rw [HYS.out] at hrow
    have HROW := Lib.hid hrow
    clear hv4 hrow
    go_wp2_with fail
    refine (HAU2.out _ _ HB4.out HGL.out HROW.out).mono ?_
    cases B with
    | none =>
      have HRN : Hid (R = none) := Lib.hid hRR2
      clear hRR2
      rintro e w5 ⟨rfl, hk5⟩
      have HR5 := Lib.hid (rw_kept HR4.out hk5 (by have := HGW.out; omega))
      have HB5 := Lib.hid (kept_g HB4.out HGL.out hk5)
      clear hk5
      go_wp2_with (first | (refine wpList_store_mid rfl 24 _ _ rfl w.heap.size 0 (urlCells urlZ).toArray rfl rfl (Rw.there HR5.out 0 _ (by simp [urlCells])) Tryz.sizeUrl (url_one _) ?_) | fail)
      have HEND := Lib.hid (Rw.storedAll HR5.out (urlCells urlZ) rfl)
      refine bodyPost_ret (v := .tuple #[urlV urlZ, .int .i64 8]) ?_ rfl ?_
      case refine_2 => rw [HRN.out]; exact ⟨rfl, below_stores HB5.out (Nat.le_refl _) _⟩
      exact results_row_tmp rfl _ _ w.heap.size 0 24 (urlCells urlZ) _ rfl HEND.out Tryz.underlying24 rfl Tryz.sizeUrl (.int .i64 8) rfl
    | some a =>
      rintro e w5 ⟨rfl, hv5⟩
      obtain ⟨p, hp⟩ : ∃ p : ByteArray, p = ⟨(fromL authE y.data.toList).toArray⟩ := ⟨_, rfl⟩
      have hpl : p.data.toList = fromL authE y.data.toList := by rw [hp]
      have hps : p.size ≤ 65536 := by
        have := from_len authE y.data.toList
        rw [hp, mk_size]
        rw [size_data] at this
        omega
      obtain ⟨q, hq⟩ : ∃ q : ByteArray, q = ⟨(fromL pathE p.data.toList).toArray⟩ := ⟨_, rfl⟩
      have hql : q.data.toList = fromL pathE p.data.toList := by rw [hq]
      have hqs : q.size ≤ 65536 := by
        have := from_len pathE p.data.toList
        rw [hq, mk_size]
        rw [size_data] at this
        omega
      obtain ⟨r, hr⟩ : ∃ r : ByteArray, r = ⟨(queryP q.data.toList).2.2.toArray⟩ := ⟨_, rfl⟩
      have hrl : r.data.toList = (queryP q.data.toList).2.2 := by rw [hr]
      have hrs : r.size ≤ 65536 := by
        rw [hr, mk_size]
        unfold queryP
        split
        · have := from_len [35] (q.data.toList.drop 1)
          rw [List.length_drop, size_data] at this
          show (fromL [35] (q.data.toList.drop 1)).length ≤ _
          omega
        · show q.data.toList.length ≤ _
          rw [size_data]
          exact hqs
      obtain ⟨v, hvv⟩ : ∃ v : UrlM, v = { urlZ with sch := x.1, usr := a.usr, pas := a.pas, hos := a.hos, prt := a.prt } := ⟨_, rfl⟩
      have HR5 := Lib.hid (rw_kept HR4.out hv5.2 (by have := HGW.out; omega))
      have HB5 := Lib.hid (kept_g HB4.out HGL.out hv5.2)
      have hrow5 : Rw w5 0 w2.heap.size 39 (.string p :: urlCells v) := by
        have := hv5.1
        rw [show strL (fromL authE y.data.toList) = .string p by rw [hp]; rfl] at this
        rw [hvv]
        exact this
      have HPA := Lib.hid (upath_any HE.out HB5.out HGL.out p hps hrow5)
      have HRS : Hid (R = some { { { v with pth := pathP (upL pathE p.data.toList) } with hq := (queryP q.data.toList).1, qry := (queryP q.data.toList).2.1 } with hf := (fragP r.data.toList).1, frg := (fragP r.data.toList).2 }) := Lib.hid (by
        rw [hRR2, hrl, hql, hpl, hvv]
        rfl)
      have HQS : Hid (strL (fromL pathE p.data.toList) = .string q) := Lib.hid (by rw [hq]; rfl)
      have HRSS : Hid (strL (queryP q.data.toList).2.2 = .string r) := Lib.hid (by rw [hr]; rfl)
      have HV1 : Hid (v.hq = false ∧ v.qry = [] ∧ v.hf = false ∧ v.frg = []) := Lib.hid (by rw [hvv]; exact ⟨rfl, rfl, rfl, rfl⟩)
      clear hv5 hrow5 hp hq hr hpl hql hrl hvv hRR2
      go_wp2_with fail
      refine HPA.out.mono ?_
      rintro e w6 ⟨rfl, hv6⟩
      have HR6 := Lib.hid (rw_kept HR5.out hv6.2 (by have := HGW.out; omega))
      have HB6 := Lib.hid (kept_g HB5.out HGL.out hv6.2)
      have hrow6 := hv6.1
      rw [HQS.out] at hrow6
      have HQU := Lib.hid (uquery_any (u := { v with pth := pathP (upL pathE p.data.toList) }) HV1.out.1 HV1.out.2.1 q hqs hrow6)
      clear hv6 hrow6
      go_wp2_with fail
      refine HQU.out.mono ?_
      rintro e w7 ⟨rfl, hv7⟩
      have HR7 := Lib.hid (rw_kept HR6.out hv7.2 (by have := HGW.out; omega))
      have HB7 := Lib.hid (kept_g HB6.out HGL.out hv7.2)
      have hrow7 := hv7.1
      rw [HRSS.out] at hrow7
      have HFR := Lib.hid (ufrag_any (u := { { v with pth := pathP (upL pathE p.data.toList) } with hq := (queryP q.data.toList).1, qry := (queryP q.data.toList).2.1 }) HV1.out.2.2.1 HV1.out.2.2.2 r hrs hrow7)
      obtain ⟨z, hzz⟩ : ∃ z : UrlM, z = { { { v with pth := pathP (upL pathE p.data.toList) } with hq := (queryP q.data.toList).1, qry := (queryP q.data.toList).2.1 } with hf := (fragP r.data.toList).1, frg := (fragP r.data.toList).2 } := ⟨_, rfl⟩
      have HRZ : Hid (R = some z) := Lib.hid (by rw [hzz]; exact HRS.out)
      have HFR2 : Hid (Calls Tryz.prog 21 #[.pointer (some ⟨w2.heap.size, 0, none⟩)] w7 fun e w' => e = .returned (.tuple #[]) ∧ ∃ l, RestV w7 w' w2.heap.size 39 (urlCells z) l) := Lib.hid (by rw [hzz]; exact HFR.out)
      clear hv7 hrow7 hzz HRS HFR
      go_wp2_with fail
      refine HFR2.out.mono ?_
      rintro e w8 ⟨rfl, l8, hv8⟩
      have HR8 := Lib.hid (rw_kept HR7.out hv8.2 (by have := HGW.out; omega))
      have HB8 := Lib.hid (kept_g HB7.out HGL.out hv8.2)
      have HRG : Hid (w8.rangeAt w2.heap.size 1 (urlCells z)) := Lib.hid (Rw.range hv8.1 1 (urlCells z) (fun j v hj => by rw [Nat.add_comm]; exact hj))
      clear hv8
      go_wp2_with (first | (refine wpList_load_mid rfl 24 _ rfl w2.heap.size 1 rfl (urlCells z) _ HRG.out Tryz.underlying24 rfl Tryz.sizeUrl ?_) | (refine wpList_store_mid rfl 24 _ _ rfl w.heap.size 0 (urlCells z).toArray rfl rfl (Rw.there HR8.out 0 _ (by simp [urlCells])) Tryz.sizeUrl (url_one _) ?_) | fail)
      have HEND := Lib.hid (Rw.storedAll HR8.out (urlCells z) rfl)
      refine bodyPost_ret (v := .tuple #[urlV z, .int .i64 0]) ?_ rfl ?_
      case refine_2 => rw [HRZ.out]; exact ⟨rfl, below_stores HB8.out (Nat.le_refl _) _⟩
      exact results_row_tmp rfl _ _ w.heap.size 0 24 (urlCells z) _ rfl HEND.out Tryz.underlying24 rfl Tryz.sizeUrl (.int .i64 0) rfl

def markS (b : Bool) (m p : ByteArray) : ByteArray := if b then m ++ p else ⟨#[]⟩

theorem markS_list (b : Bool) (m p : ByteArray) : (markS b m p).data.toList = markL b m.data.toList p.data.toList := by
  unfold markS markL
  cases b
  · rfl
  · simp

theorem app_size (a b : ByteArray) : (a ++ b).size = a.size + b.size := ByteArray.size_append

theorem umarked_any (b : Bool) (m p : ByteArray) (hm : m.size ≤ 1073741824) (hp : p.size ≤ 1073741824) (w : World) :
    Calls Tryz.prog 32 #[.bool b, .string m, .string p] w fun e w' => e = .returned (.string (markS b m p)) ∧ w' = w := by
  cases b
  · go_enter Tryz.func32, Tryz.ntmps32
    go_wp2
    go_ret
    exact ⟨rfl, rfl⟩
  · go_enter Tryz.func32, Tryz.ntmps32
    go_wp2
    go_ret
    exact ⟨rfl, rfl⟩

def userS (U P : ByteArray) : ByteArray := if U.size = 0 ∧ P.size = 0 then ⟨#[]⟩ else U ++ markS (decide (P.size ≠ 0)) ⟨#[58]⟩ P ++ ⟨#[64]⟩

theorem userS_no {U P : ByteArray} (h : ¬ (U.size = 0 ∧ P.size = 0)) {b : Bool} (hb : decide (P.size ≠ 0) = b) : userS U P = U ++ markS b ⟨#[58]⟩ P ++ ⟨#[64]⟩ := by
  unfold userS
  rw [if_neg h, hb]

set_option maxHeartbeats 1000000 in
theorem uuserText_any (S U P H T Q F : ByteArray) (pt : Int) (hq hf : Bool) (hU : U.size ≤ 1048576) (hP : P.size ≤ 1048576) (w : World) :
    Calls Tryz.prog 31 #[.agg #[.string S, .string U, .string P, .string H, .int .i64 pt, .string T, .bool hq, .string Q, .bool hf, .string F]] w fun e w' => e = .returned (.string (userS U P)) ∧ Below w.heap.size w w' := by
  have HB := Lib.hid (below_more (Below.refl _ w) (.cells #[.string S, .string U, .string P, .string H, .int .i64 pt, .string T, .bool hq, .string Q, .bool hf, .string F] 24))
  obtain ⟨R, hR⟩ : ∃ R, R = userS U P := ⟨_, rfl⟩
  rw [← hR]
  by_cases hu : U.size = 0
  · by_cases hp : P.size = 0
    · have y1 := emptyYes hu
      have y2 := emptyYes hp
      have HR : Hid (R = ⟨#[]⟩) := Lib.hid (by rw [hR]; unfold userS; rw [if_pos ⟨hu, hp⟩])
      clear hR hu hp
      go_enter Tryz.func31, Tryz.ntmps31
      go_wp2_with fail
      go_ret
      exact ⟨by rw [HR.out]; rfl, HB.out⟩
    · have y1 := emptyYes hu
      have y2 := emptyNo hp
      have HR : Hid (R = U ++ markS true ⟨#[58]⟩ P ++ ⟨#[64]⟩) := Lib.hid (by rw [hR]; exact userS_no (by rintro ⟨h1, h2⟩; first | exact hu h1 | exact hp h2) (by simp [hp]))
      obtain ⟨M, hM⟩ : ∃ M, M = markS true ⟨#[58]⟩ P := ⟨_, rfl⟩
      have HM := Lib.hid (fun W => umarked_any true ⟨#[58]⟩ P (by decide) (by omega) W)
      have hMs : M.size ≤ 1048577 := by rw [hM]; unfold markS; split; (rw [app_size, show (⟨#[58]⟩ : ByteArray).size = 1 from rfl]; omega); (show 0 ≤ _; omega)
      rw [← hM] at HM HR
      have s1 : ¬ 9223372036854775807 < U.size + M.size := by omega
      have s2 : ¬ 9223372036854775807 < U.size + M.size + 1 := by omega
      clear hR hu hp hM
      go_enter Tryz.func31, Tryz.ntmps31
      go_wp2_with fail
      obtain ⟨wq, hwq⟩ : ∃ wq, wq = w.alloc (.cells #[.string S, .string U, .string P, .string H, .int .i64 pt, .string T, .bool hq, .string Q, .bool hf, .string F] 24) := ⟨_, rfl⟩
      have z1 : wq.cell? ⟨w.heap.size, 1, none⟩ = some (.string U) := by rw [hwq]; exact alloc_cell w _ _ _ 1
      have z2 : wq.cell? ⟨w.heap.size, 2, none⟩ = some (.string P) := by rw [hwq]; exact alloc_cell w _ _ _ 2
      rw [← hwq] at HB ⊢
      clear hwq
      go_quiet ((go_at_call 32; exact Calls.quiet_of_same (HM.out _)))
      go_wp2_with fail
      go_ret
      exact ⟨by rw [HR.out]; rfl, below_draws HB.out ⟨_, rfl⟩⟩
  · have y1 := emptyNo hu
    by_cases hp : P.size = 0
    · have y2 := emptyYes hp
      have HR : Hid (R = U ++ markS false ⟨#[58]⟩ P ++ ⟨#[64]⟩) := Lib.hid (by rw [hR]; exact userS_no (by rintro ⟨h1, h2⟩; first | exact hu h1 | exact hp h2) (by simp [hp]))
      obtain ⟨M, hM⟩ : ∃ M, M = markS false ⟨#[58]⟩ P := ⟨_, rfl⟩
      have HM := Lib.hid (fun W => umarked_any false ⟨#[58]⟩ P (by decide) (by omega) W)
      have hMs : M.size ≤ 1048577 := by rw [hM]; unfold markS; split; (rw [app_size, show (⟨#[58]⟩ : ByteArray).size = 1 from rfl]; omega); (show 0 ≤ _; omega)
      rw [← hM] at HM HR
      have s1 : ¬ 9223372036854775807 < U.size + M.size := by omega
      have s2 : ¬ 9223372036854775807 < U.size + M.size + 1 := by omega
      clear hR hu hp hM
      go_enter Tryz.func31, Tryz.ntmps31
      go_wp2_with fail
      obtain ⟨wq, hwq⟩ : ∃ wq, wq = w.alloc (.cells #[.string S, .string U, .string P, .string H, .int .i64 pt, .string T, .bool hq, .string Q, .bool hf, .string F] 24) := ⟨_, rfl⟩
      have z1 : wq.cell? ⟨w.heap.size, 1, none⟩ = some (.string U) := by rw [hwq]; exact alloc_cell w _ _ _ 1
      have z2 : wq.cell? ⟨w.heap.size, 2, none⟩ = some (.string P) := by rw [hwq]; exact alloc_cell w _ _ _ 2
      rw [← hwq] at HB ⊢
      clear hwq
      go_quiet ((go_at_call 32; exact Calls.quiet_of_same (HM.out _)))
      go_wp2_with fail
      go_ret
      exact ⟨by rw [HR.out]; rfl, below_draws HB.out ⟨_, rfl⟩⟩
    · have y2 := emptyNo hp
      have HR : Hid (R = U ++ markS true ⟨#[58]⟩ P ++ ⟨#[64]⟩) := Lib.hid (by rw [hR]; exact userS_no (by rintro ⟨h1, h2⟩; first | exact hu h1 | exact hp h2) (by simp [hp]))
      obtain ⟨M, hM⟩ : ∃ M, M = markS true ⟨#[58]⟩ P := ⟨_, rfl⟩
      have HM := Lib.hid (fun W => umarked_any true ⟨#[58]⟩ P (by decide) (by omega) W)
      have hMs : M.size ≤ 1048577 := by rw [hM]; unfold markS; split; (rw [app_size, show (⟨#[58]⟩ : ByteArray).size = 1 from rfl]; omega); (show 0 ≤ _; omega)
      rw [← hM] at HM HR
      have s1 : ¬ 9223372036854775807 < U.size + M.size := by omega
      have s2 : ¬ 9223372036854775807 < U.size + M.size + 1 := by omega
      clear hR hu hp hM
      go_enter Tryz.func31, Tryz.ntmps31
      go_wp2_with fail
      obtain ⟨wq, hwq⟩ : ∃ wq, wq = w.alloc (.cells #[.string S, .string U, .string P, .string H, .int .i64 pt, .string T, .bool hq, .string Q, .bool hf, .string F] 24) := ⟨_, rfl⟩
      have z1 : wq.cell? ⟨w.heap.size, 1, none⟩ = some (.string U) := by rw [hwq]; exact alloc_cell w _ _ _ 1
      have z2 : wq.cell? ⟨w.heap.size, 2, none⟩ = some (.string P) := by rw [hwq]; exact alloc_cell w _ _ _ 2
      rw [← hwq] at HB ⊢
      clear hwq
      go_quiet ((go_at_call 32; exact Calls.quiet_of_same (HM.out _)))
      go_wp2_with fail
      go_ret
      exact ⟨by rw [HR.out]; rfl, below_draws HB.out ⟨_, rfl⟩⟩

theorem cell_stays {w w' : World} {a : Addr} {v : Value} (h : w.cell? a = some v) (hb : Below w.heap.size w w') : w'.cell? a = some v := by
  obtain ⟨b, o, m⟩ := a
  rcases Nat.lt_or_ge b w.heap.size with hl | hl
  · unfold World.cell? at h ⊢
    rw [hb.block b hl]
    exact h
  · exfalso
    unfold World.cell? at h
    rw [Array.getElem?_eq_none hl] at h
    cases h

theorem user_list (U P : ByteArray) (u : UrlM) (h1 : U.data.toList = u.usr) (h2 : P.data.toList = u.pas) : (userS U P).data.toList = userL2 u := by
  have e1 : (U.size = 0) ↔ (u.usr = []) := by rw [← h1]; exact ⟨fun h => nil_size h, fun h => by rw [← size_data, h]; rfl⟩
  have e2 : (P.size = 0) ↔ (u.pas = []) := by rw [← h2]; exact ⟨fun h => nil_size h, fun h => by rw [← size_data, h]; rfl⟩
  unfold userS userL2
  by_cases hc : U.size = 0 ∧ P.size = 0
  · rw [if_pos hc, if_pos ⟨e1.1 hc.1, e2.1 hc.2⟩]
  · rw [if_neg hc, if_neg (fun h => hc ⟨e1.2 h.1, e2.2 h.2⟩), mk_app, mk_app, markS_list, h1, h2]
    have e3 : decide (P.size ≠ 0) = decide (u.pas ≠ []) := by
      by_cases h : P.size = 0
      · have h2 := e2.1 h
        simp [h, h2]
      · have h2 : u.pas ≠ [] := fun hh => h (e2.2 hh)
        simp [h, h2]
    rw [e3]

set_option maxHeartbeats 4000000 in
theorem utext_any (S U P H T Q F : ByteArray) (pt : Int) (hq hf : Bool) (hS : S.size ≤ 1048576) (hU : U.size ≤ 1048576) (hP : P.size ≤ 1048576) (hH : H.size ≤ 1048576) (hT : T.size ≤ 1048576) (hQ : Q.size ≤ 1048576) (hF : F.size ≤ 1048576) (hpt : -9223372036854775808 ≤ pt ∧ pt ≤ 9223372036854775807) (w : World) (hE : Tab10 w) :
    Calls Tryz.prog 11 #[.agg #[.string S, .string U, .string P, .string H, .int .i64 pt, .string T, .bool hq, .string Q, .bool hf, .string F]] w fun e w' => e = .returned (strL (textU ⟨S.data.toList, U.data.toList, P.data.toList, H.data.toList, pt, T.data.toList, hq, Q.data.toList, hf, F.data.toList⟩)) ∧ Below w.heap.size w w' := by
  obtain ⟨ut, hut⟩ : ∃ ut, ut = userS U P := ⟨_, rfl⟩
  have hutl : ut.data.toList = userL2 ⟨S.data.toList, U.data.toList, P.data.toList, H.data.toList, pt, T.data.toList, hq, Q.data.toList, hf, F.data.toList⟩ := by rw [hut]; exact user_list U P _ rfl rfl
  obtain ⟨D, hD⟩ : ∃ D : ByteArray, D = ⟨(Lib.itoa pt).toArray⟩ := ⟨_, rfl⟩
  have hDs : D.size ≤ 21 := by rw [hD, mk_size]; exact Lib.itoa_length_le pt hpt.1 hpt.2
  obtain ⟨b1, hb1⟩ : ∃ b1 : Bool, b1 = (pt != -1) := ⟨_, rfl⟩
  have hb2 : b1 = decide (pt ≠ -1) := by rw [hb1]; by_cases h : pt = -1 <;> simp [h]
  obtain ⟨m1, hm1⟩ : ∃ m1, m1 = markS b1 ⟨#[58]⟩ D := ⟨_, rfl⟩
  obtain ⟨m2, hm2⟩ : ∃ m2, m2 = markS hq ⟨#[63]⟩ Q := ⟨_, rfl⟩
  obtain ⟨m3, hm3⟩ : ∃ m3, m3 = markS hf ⟨#[35]⟩ F := ⟨_, rfl⟩
  have hmz : ∀ (b : Bool) (c : UInt8) (x : ByteArray), x.size ≤ 1048576 → (markS b ⟨#[c]⟩ x).size ≤ 1048577 := by
    intro b c x hx
    unfold markS
    split
    · rw [app_size, show (⟨#[c]⟩ : ByteArray).size = 1 from rfl]; omega
    · show 0 ≤ _; omega
  have hm1s : m1.size ≤ 1048577 := by rw [hm1]; exact hmz _ _ _ (by omega)
  have hm2s : m2.size ≤ 1048577 := by rw [hm2]; exact hmz _ _ _ hQ
  have hm3s : m3.size ≤ 1048577 := by rw [hm3]; exact hmz _ _ _ hF
  have huts : ut.size ≤ 2097154 := by
    rw [hut]
    unfold userS
    split
    · show 0 ≤ _; omega
    · rw [app_size, app_size, show (⟨#[64]⟩ : ByteArray).size = 1 from rfl]
      have := hmz (decide (P.size ≠ 0)) 58 P hP
      omega
  have HST : Hid (∀ W W', (Below w.heap.size w W ∧ (W).cell? ⟨w.heap.size, 0, none⟩ = some (.string S) ∧ (W).cell? ⟨w.heap.size, 1, none⟩ = some (.string U) ∧ (W).cell? ⟨w.heap.size, 2, none⟩ = some (.string P) ∧ (W).cell? ⟨w.heap.size, 3, none⟩ = some (.string H) ∧ (W).cell? ⟨w.heap.size, 4, none⟩ = some (.int .i64 pt) ∧ (W).cell? ⟨w.heap.size, 5, none⟩ = some (.string T) ∧ (W).cell? ⟨w.heap.size, 6, none⟩ = some (.bool hq) ∧ (W).cell? ⟨w.heap.size, 7, none⟩ = some (.string Q) ∧ (W).cell? ⟨w.heap.size, 8, none⟩ = some (.bool hf) ∧ (W).cell? ⟨w.heap.size, 9, none⟩ = some (.string F)) → Below W.heap.size W W' → (Below w.heap.size w W' ∧ (W').cell? ⟨w.heap.size, 0, none⟩ = some (.string S) ∧ (W').cell? ⟨w.heap.size, 1, none⟩ = some (.string U) ∧ (W').cell? ⟨w.heap.size, 2, none⟩ = some (.string P) ∧ (W').cell? ⟨w.heap.size, 3, none⟩ = some (.string H) ∧ (W').cell? ⟨w.heap.size, 4, none⟩ = some (.int .i64 pt) ∧ (W').cell? ⟨w.heap.size, 5, none⟩ = some (.string T) ∧ (W').cell? ⟨w.heap.size, 6, none⟩ = some (.bool hq) ∧ (W').cell? ⟨w.heap.size, 7, none⟩ = some (.string Q) ∧ (W').cell? ⟨w.heap.size, 8, none⟩ = some (.bool hf) ∧ (W').cell? ⟨w.heap.size, 9, none⟩ = some (.string F))) := Lib.hid (by
    intro W W' h hb
    obtain ⟨h0, h1, h2, h3, h4, h5, h6, h7, h8, h9, h10⟩ := h
    exact ⟨h0.trans (hb.mono h0.size), cell_stays h1 hb, cell_stays h2 hb, cell_stays h3 hb, cell_stays h4 hb, cell_stays h5 hb, cell_stays h6 hb, cell_stays h7 hb, cell_stays h8 hb, cell_stays h9 hb, cell_stays h10 hb⟩)
  have HUT : Hid (∀ W, (Below w.heap.size w W ∧ (W).cell? ⟨w.heap.size, 0, none⟩ = some (.string S) ∧ (W).cell? ⟨w.heap.size, 1, none⟩ = some (.string U) ∧ (W).cell? ⟨w.heap.size, 2, none⟩ = some (.string P) ∧ (W).cell? ⟨w.heap.size, 3, none⟩ = some (.string H) ∧ (W).cell? ⟨w.heap.size, 4, none⟩ = some (.int .i64 pt) ∧ (W).cell? ⟨w.heap.size, 5, none⟩ = some (.string T) ∧ (W).cell? ⟨w.heap.size, 6, none⟩ = some (.bool hq) ∧ (W).cell? ⟨w.heap.size, 7, none⟩ = some (.string Q) ∧ (W).cell? ⟨w.heap.size, 8, none⟩ = some (.bool hf) ∧ (W).cell? ⟨w.heap.size, 9, none⟩ = some (.string F)) → Calls Tryz.prog 31 #[.agg #[.string S, .string U, .string P, .string H, .int .i64 pt, .string T, .bool hq, .string Q, .bool hf, .string F]] W fun e w' => e = .returned (.string ut) ∧ (Below w.heap.size w w' ∧ (w').cell? ⟨w.heap.size, 0, none⟩ = some (.string S) ∧ (w').cell? ⟨w.heap.size, 1, none⟩ = some (.string U) ∧ (w').cell? ⟨w.heap.size, 2, none⟩ = some (.string P) ∧ (w').cell? ⟨w.heap.size, 3, none⟩ = some (.string H) ∧ (w').cell? ⟨w.heap.size, 4, none⟩ = some (.int .i64 pt) ∧ (w').cell? ⟨w.heap.size, 5, none⟩ = some (.string T) ∧ (w').cell? ⟨w.heap.size, 6, none⟩ = some (.bool hq) ∧ (w').cell? ⟨w.heap.size, 7, none⟩ = some (.string Q) ∧ (w').cell? ⟨w.heap.size, 8, none⟩ = some (.bool hf) ∧ (w').cell? ⟨w.heap.size, 9, none⟩ = some (.string F))) := Lib.hid (by
    intro W hW
    rw [hut]
    exact (uuserText_any S U P H T Q F pt hq hf hU hP W).mono fun e w' h => ⟨h.1, HST.out W w' hW h.2⟩)
  have HDC : Hid (∀ W, (Below w.heap.size w W ∧ (W).cell? ⟨w.heap.size, 0, none⟩ = some (.string S) ∧ (W).cell? ⟨w.heap.size, 1, none⟩ = some (.string U) ∧ (W).cell? ⟨w.heap.size, 2, none⟩ = some (.string P) ∧ (W).cell? ⟨w.heap.size, 3, none⟩ = some (.string H) ∧ (W).cell? ⟨w.heap.size, 4, none⟩ = some (.int .i64 pt) ∧ (W).cell? ⟨w.heap.size, 5, none⟩ = some (.string T) ∧ (W).cell? ⟨w.heap.size, 6, none⟩ = some (.bool hq) ∧ (W).cell? ⟨w.heap.size, 7, none⟩ = some (.string Q) ∧ (W).cell? ⟨w.heap.size, 8, none⟩ = some (.bool hf) ∧ (W).cell? ⟨w.heap.size, 9, none⟩ = some (.string F)) → Calls Tryz.prog 33 #[.int .i64 pt] W fun e w' => e = .returned (.string D) ∧ (Below w.heap.size w w' ∧ (w').cell? ⟨w.heap.size, 0, none⟩ = some (.string S) ∧ (w').cell? ⟨w.heap.size, 1, none⟩ = some (.string U) ∧ (w').cell? ⟨w.heap.size, 2, none⟩ = some (.string P) ∧ (w').cell? ⟨w.heap.size, 3, none⟩ = some (.string H) ∧ (w').cell? ⟨w.heap.size, 4, none⟩ = some (.int .i64 pt) ∧ (w').cell? ⟨w.heap.size, 5, none⟩ = some (.string T) ∧ (w').cell? ⟨w.heap.size, 6, none⟩ = some (.bool hq) ∧ (w').cell? ⟨w.heap.size, 7, none⟩ = some (.string Q) ∧ (w').cell? ⟨w.heap.size, 8, none⟩ = some (.bool hf) ∧ (w').cell? ⟨w.heap.size, 9, none⟩ = some (.string F))) := Lib.hid (by
    intro W hW
    rw [hD]
    exact (decimal_any pt hpt W (tab10_below hE hW.1)).mono fun e w' h => ⟨h.1, HST.out W w' hW h.2⟩)
  have HM1 : Hid (∀ W, Calls Tryz.prog 32 #[.bool (pt != -1), .string ⟨#[58]⟩, .string D] W fun e w' => e = .returned (.string m1) ∧ w' = W) := Lib.hid (by
    intro W
    rw [hm1, hb1]
    exact umarked_any (pt != -1) ⟨#[58]⟩ D (by decide) (by omega) W)
  have HM2 : Hid (∀ W, Calls Tryz.prog 32 #[.bool hq, .string ⟨#[63]⟩, .string Q] W fun e w' => e = .returned (.string m2) ∧ w' = W) := Lib.hid (by
    intro W
    rw [hm2]
    exact umarked_any hq ⟨#[63]⟩ Q (by decide) (by omega) W)
  have HM3 : Hid (∀ W, Calls Tryz.prog 32 #[.bool hf, .string ⟨#[35]⟩, .string F] W fun e w' => e = .returned (.string m3) ∧ w' = W) := Lib.hid (by
    intro W
    rw [hm3]
    exact umarked_any hf ⟨#[35]⟩ F (by decide) (by omega) W)
  have HR : Hid (Value.string (((((((S ++ ⟨#[58, 47, 47]⟩) ++ ut) ++ H) ++ m1) ++ T) ++ m2) ++ m3) = strL (textU ⟨S.data.toList, U.data.toList, P.data.toList, H.data.toList, pt, T.data.toList, hq, Q.data.toList, hf, F.data.toList⟩)) := Lib.hid (by
    symm
    refine strL_of ?_
    rw [mk_app, mk_app, mk_app, mk_app, mk_app, mk_app, mk_app, hutl, hm1, hm2, hm3, markS_list, markS_list, markS_list, hD, hb2]
    rfl)
  have HB : Hid (Below w.heap.size w (w.alloc (.cells #[.string S, .string U, .string P, .string H, .int .i64 pt, .string T, .bool hq, .string Q, .bool hf, .string F] 24))) := Lib.hid (below_more (Below.refl _ w) _)
  have t1 : ¬ 9223372036854775807 < S.size + 3 := by omega
  have t2 : ¬ 9223372036854775807 < S.size + 3 + ut.size := by omega
  have t3 : ¬ 9223372036854775807 < S.size + 3 + ut.size + H.size := by omega
  have t4 : ¬ 9223372036854775807 < S.size + 3 + ut.size + H.size + m1.size := by omega
  have t5 : ¬ 9223372036854775807 < S.size + 3 + ut.size + H.size + m1.size + T.size := by omega
  have t6 : ¬ 9223372036854775807 < S.size + 3 + ut.size + H.size + m1.size + T.size + m2.size := by omega
  have t7 : ¬ 9223372036854775807 < S.size + 3 + ut.size + H.size + m1.size + T.size + m2.size + m3.size := by omega
  clear hut hutl hD hDs hb1 hb2 hm1 hm2 hm3 hmz hm1s hm2s hm3s huts hS hU hP hH hT hQ hF hpt hE
  go_enter Tryz.func11, Tryz.ntmps11
  go_wp2_with fail
  obtain ⟨wq, hwq⟩ : ∃ wq, wq = w.alloc (.cells #[.string S, .string U, .string P, .string H, .int .i64 pt, .string T, .bool hq, .string Q, .bool hf, .string F] 24) := ⟨_, rfl⟩
  have HS0 : Hid (Below w.heap.size w wq ∧ (wq).cell? ⟨w.heap.size, 0, none⟩ = some (.string S) ∧ (wq).cell? ⟨w.heap.size, 1, none⟩ = some (.string U) ∧ (wq).cell? ⟨w.heap.size, 2, none⟩ = some (.string P) ∧ (wq).cell? ⟨w.heap.size, 3, none⟩ = some (.string H) ∧ (wq).cell? ⟨w.heap.size, 4, none⟩ = some (.int .i64 pt) ∧ (wq).cell? ⟨w.heap.size, 5, none⟩ = some (.string T) ∧ (wq).cell? ⟨w.heap.size, 6, none⟩ = some (.bool hq) ∧ (wq).cell? ⟨w.heap.size, 7, none⟩ = some (.string Q) ∧ (wq).cell? ⟨w.heap.size, 8, none⟩ = some (.bool hf) ∧ (wq).cell? ⟨w.heap.size, 9, none⟩ = some (.string F)) := Lib.hid (by
    rw [hwq]
    exact ⟨HB.out, alloc_cell w _ _ _ 0, alloc_cell w _ _ _ 1, alloc_cell w _ _ _ 2, alloc_cell w _ _ _ 3, alloc_cell w _ _ _ 4, alloc_cell w _ _ _ 5, alloc_cell w _ _ _ 6, alloc_cell w _ _ _ 7, alloc_cell w _ _ _ 8, alloc_cell w _ _ _ 9⟩)
  have HS1 : Hid (Below w.heap.size w wq.drew ∧ (wq.drew).cell? ⟨w.heap.size, 0, none⟩ = some (.string S) ∧ (wq.drew).cell? ⟨w.heap.size, 1, none⟩ = some (.string U) ∧ (wq.drew).cell? ⟨w.heap.size, 2, none⟩ = some (.string P) ∧ (wq.drew).cell? ⟨w.heap.size, 3, none⟩ = some (.string H) ∧ (wq.drew).cell? ⟨w.heap.size, 4, none⟩ = some (.int .i64 pt) ∧ (wq.drew).cell? ⟨w.heap.size, 5, none⟩ = some (.string T) ∧ (wq.drew).cell? ⟨w.heap.size, 6, none⟩ = some (.bool hq) ∧ (wq.drew).cell? ⟨w.heap.size, 7, none⟩ = some (.string Q) ∧ (wq.drew).cell? ⟨w.heap.size, 8, none⟩ = some (.bool hf) ∧ (wq.drew).cell? ⟨w.heap.size, 9, none⟩ = some (.string F)) := Lib.hid (HST.out wq wq.drew HS0.out (below_draws (Below.refl _ _) ⟨1, rfl⟩))
  rw [← hwq]
  clear hwq HB
  go_region_held3 (fun W => Below w.heap.size w W ∧ W.cell? ⟨w.heap.size, 0, none⟩ = some (.string S) ∧ W.cell? ⟨w.heap.size, 1, none⟩ = some (.string U) ∧ W.cell? ⟨w.heap.size, 2, none⟩ = some (.string P) ∧ W.cell? ⟨w.heap.size, 3, none⟩ = some (.string H) ∧ W.cell? ⟨w.heap.size, 4, none⟩ = some (.int .i64 pt) ∧ W.cell? ⟨w.heap.size, 5, none⟩ = some (.string T) ∧ W.cell? ⟨w.heap.size, 6, none⟩ = some (.bool hq) ∧ W.cell? ⟨w.heap.size, 7, none⟩ = some (.string Q) ∧ W.cell? ⟨w.heap.size, 8, none⟩ = some (.bool hf) ∧ W.cell? ⟨w.heap.size, 9, none⟩ = some (.string F))
    (first | exact HS1.out | assumption)
    (first
      | (go_at_call 31; refine (HUT.out _ (by assumption)).mono ?_; rintro e w7 ⟨rfl, hS7⟩)
      | (go_at_call 33; refine (HDC.out _ (by assumption)).mono ?_; rintro e w8 ⟨rfl, hS8⟩)
      | (go_at_call 32; with_reducible refine (HM1.out _).mono ?_; rintro e w9 ⟨rfl, rfl⟩)
      | (go_at_call 32; with_reducible refine (HM2.out _).mono ?_; rintro e w9 ⟨rfl, rfl⟩)
      | (go_at_call 32; with_reducible refine (HM3.out _).mono ?_; rintro e w9 ⟨rfl, rfl⟩))
  go_wp2_with fail
  go_ret
  exact ⟨by rw [← HR.out]; rfl, by first | exact hS8.1 | exact hS7.1⟩

end Go.Proofs.YtinocdddihjfeaaGreatDoor
