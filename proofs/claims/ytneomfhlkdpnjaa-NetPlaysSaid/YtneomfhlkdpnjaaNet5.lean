/- Contracts: the code's net: Send. -/
import Derived.BigRegion
import Derived.Deep.RegionHeld3
import Derived.Deep.RegionLaw
import Derived.Test.YtneomfhlkdpnjaaProg
import Derived.Test.YtneomfhlkdpnjaaKit
import Derived.Test.YtneomfhlkdpnjaaRow
import Derived.Test.YtneomfhlkdpnjaaRow2
import Derived.Test.YtneomfhlkdpnjaaCod7
import Derived.Test.YtneomfhlkdpnjaaCod9
import Derived.Test.YtneomfhlkdpnjaaFrm4
import Derived.Test.YtneomfhlkdpnjaaFrm6
import Derived.Test.YtneomfhlkdpnjaaFrm12
import Derived.Test.YtneomfhlkdpnjaaFp
import Derived.Test.YtneomfhlkdpnjaaNet0
import Derived.Test.YtneomfhlkdpnjaaNet1
import Derived.Test.YtneomfhlkdpnjaaNet2
import Derived.Test.YtneomfhlkdpnjaaStp
import Derived.Test.YtneomfhlkdpnjaaNet4
namespace Go.Proofs.Ytneomfhlkdpnjaa
open Go.RowKit Go.Proofs

/-- Packets that are handed in. -/
def PksIn (w : World) (v : Value) (ls : List PkM) : Prop :=
  ∃ A C, v = .slice A ls.length C ∧ (ls = [] ∨ ∃ b o, A = some ⟨b, o, none⟩ ∧ ∀ (j : Nat) (p : PkM), ls[j]? = some p → ∃ u, w.rangeAt b (o + j * 3) [.int .i64 p.f, .int .i64 p.t, u] ∧ ByteSl w w.heap.size u p.b ∧ p.b.length ≤ 140737488351232)

def SendR (T : TypeId) (w : World) (g : Nat) (v : Value) (rs : List RecP) (ls : List PkM) (wr : World) : Prop :=
  ∃ v' rs', NetAt T wr g v' rs' ∧ rs'.map (·.p) = (sendM (rs.map (·.p)) ls).2 ∧ (∀ k, v'.ownBlock = some k → v.ownBlock = some k ∨ w.heap.size ≤ k) ∧ Kept (Foot g v) w wr ∧
    ∀ r ∈ rs', r ∈ rs ∨ ∀ k, r.u.ownBlock = some k → w.heap.size ≤ k

theorem sendR_start {T : TypeId} {w : World} {g : Nat} {v : Value} {rs : List RecP} (h : NetAt T w g v rs) : SendR T w g v rs [] w := ⟨v, rs, h, rfl, fun _ hk => .inl hk, kept_refl _ _, fun _ hr => .inl hr⟩

theorem sendR_below {T : TypeId} {w wr w' : World} {g : Nat} {v : Value} {rs : List RecP} {ls : List PkM} (h : SendR T w g v rs ls wr) (hb : Below wr.heap.size wr w') : SendR T w g v rs ls w' := by
  obtain ⟨v', rs', h1, h2, h3, h4, h5⟩ := h
  exact ⟨v', rs', netAt_below h1 hb, h2, h3, kept_then (G := fun _ => False) h4 (kept_below hb) (fun _ h => h.elim), h5⟩

theorem sendR_skip {T : TypeId} {w wr : World} {g : Nat} {v : Value} {rs : List RecP} {ls : List PkM} {x : PkM} (h : SendR T w g v rs ls wr) (hx : (decide ((sendM (rs.map (·.p)) ls).2.length < 64) && travB x) = false) :
    SendR T w g v rs (ls ++ [x]) wr ∧ (sendM (rs.map (·.p)) (ls ++ [x])).1 = (sendM (rs.map (·.p)) ls).1 := by
  have he : sendM (rs.map (·.p)) (ls ++ [x]) = sendM (rs.map (·.p)) ls := by rw [sendM_snoc, if_neg (by rw [hx]; decide)]
  unfold SendR
  rw [he]
  exact ⟨h, rfl⟩

theorem sendR_add {T : TypeId} {w wr w' : World} {g : Nat} {v v1 : Value} {rs r1 : List RecP} {ls : List PkM} {x : PkM} {u' : Value} (hm : r1.map (·.p) = (sendM (rs.map (·.p)) ls).2) (hv : ∀ k, v1.ownBlock = some k → v.ownBlock = some k ∨ w.heap.size ≤ k) (hk : Kept (Foot g v) w wr)
    (hf : ∀ r ∈ r1, r ∈ rs ∨ ∀ k, r.u.ownBlock = some k → w.heap.size ≤ k) (hx : (decide ((sendM (rs.map (·.p)) ls).2.length < 64) && travB x) = true) (hu : ∀ k, u'.ownBlock = some k → w.heap.size ≤ k) (h : NetV T wr w' g v1 (r1 ++ [⟨x, u'⟩])) :
    SendR T w g v rs (ls ++ [x]) w' ∧ (sendM (rs.map (·.p)) (ls ++ [x])).1 = (sendM (rs.map (·.p)) ls).1 + 1 := by
  have he : sendM (rs.map (·.p)) (ls ++ [x]) = ((sendM (rs.map (·.p)) ls).1 + 1, (sendM (rs.map (·.p)) ls).2 ++ [x]) := by rw [sendM_snoc, if_pos hx]
  obtain ⟨v2, h1, h2, h3⟩ := netV_then hv hk h
  unfold SendR
  rw [he]
  refine ⟨⟨v2, r1 ++ [⟨x, u'⟩], h1, by rw [List.map_append, hm]; rfl, h2, h3, fun r hr => ?_⟩, rfl⟩
  rcases List.mem_append.1 hr with hr | hr
  · exact hf r hr
  · simp only [List.mem_cons, List.not_mem_nil, or_false] at hr
    subst hr
    exact .inr hu

/-- What a Send leaves. -/
def SentV (T : TypeId) (w w' : World) (g : Nat) (v : Value) (rs : List RecP) (ls : List PkM) : Prop :=
  ∃ rs', NetV T w w' g v rs' ∧ rs'.map (·.p) = (sendM (rs.map (·.p)) ls).2 ∧ ∀ r ∈ rs', r ∈ rs ∨ ∀ k, r.u.ownBlock = some k → w.heap.size ≤ k

theorem sentV_of {T : TypeId} {w w' : World} {g : Nat} {v : Value} {rs : List RecP} {ls : List PkM} (h : SendR T w g v rs ls w') : SentV T w w' g v rs ls := by
  obtain ⟨v', rs', h1, h2, h3, h4, h5⟩ := h
  exact ⟨rs', ⟨v', h1, h3, h4⟩, h2, h5⟩

/-- The round's packet in a block of its own. -/
theorem round_pk {w : World} {f t : Int} {u : Value} : Below w.heap.size w ((w.alloc (.cells #[.int .i64 0, .int .i64 0, .slice none 0 0] 52)).setCells w.heap.size 0 [.int .i64 f, .int .i64 t, u]) ∧
    Rw ((w.alloc (.cells #[.int .i64 0, .int .i64 0, .slice none 0 0] 52)).setCells w.heap.size 0 [.int .i64 f, .int .i64 t, u]) 0 w.heap.size 52 [.int .i64 f, .int .i64 t, u] :=
  ⟨below_setCells (Nat.le_refl _) _ _ _ (below_more (Below.refl _ _) _), Rw.storedAll (Rw.alloc w _ _ (Nat.zero_le _)) _ rfl⟩

set_option maxRecDepth 100000 in
set_option maxHeartbeats 2000000 in
theorem nsend_any {w : World} {g : Nat} {v : Value} {rs : List RecP} (h : NetAt 93 w g v rs) (ls : List PkM) (vin : Value) (hp : ∀ w', Kept (Foot g v) w w' → PksIn w' vin ls) (hn : ls.length < 1000000000000) (hrs : rs.length ≤ 64) :
    Calls Try.prog 13 #[.pointer (some ⟨g, 0, none⟩), vin] w fun e w' => e = .returned (.int .i64 (sendM (rs.map (·.p)) ls).1) ∧ SentV 93 w w' g v rs ls := by
  obtain ⟨A, C, rfl, _⟩ := hp w (kept_refl _ _)
  obtain ⟨n, hnn⟩ : ∃ n, n = ls.length := ⟨_, rfl⟩
  rw [← hnn] at hp hn ⊢
  obtain ⟨ps, hps⟩ : ∃ ps, ps = rs.map (·.p) := ⟨_, rfl⟩
  have HPL : Hid (ps.length ≤ 64) := Lib.hid (by rw [hps, List.length_map]; exact hrs)
  have HPS := Lib.hid hps
  have H := Lib.hid h
  have HP := Lib.hid hp
  have HN := Lib.hid hnn
  have hnb : (n : Int) < 1000000000000 := by omega
  have hz := zero_cells Try.infoPkz
  rw [← hps]
  clear h hp hnn hn hps hrs
  go_enter Try.func13, Try.ntmps13
  go_wp2_with fail
  go_loopw [5, 12] (fun c i wr => ∃ (k q : Nat), k ≤ n ∧ i = .int .i64 k ∧ c = .int .i64 q ∧ q ≤ k ∧ Hid (q = (sendM ps (ls.take k)).1) ∧ Hid (SendR 93 w g v rs (ls.take k) wr)) (fun _ i _ => n - (intOf i).toNat)
  case atStart => exact ⟨0, 0, Nat.zero_le _, rfl, rfl, Nat.le_refl _, Lib.hid rfl, Lib.hid (sendR_start H.out)⟩
  case round =>
    obtain ⟨k, q, hk, rfl, rfl, hqk, HQ, HR⟩ := hrel
    obtain ⟨w1, hw1⟩ : ∃ w1 : World, w1 = wr := ⟨_, rfl⟩
    subst hw1
    by_cases hlt : k < n
    · obtain ⟨x, hx⟩ : ∃ x, ls[k]? = some x := ⟨_, List.getElem?_eq_getElem (by rw [← HN.out]; exact hlt)⟩
      obtain ⟨v1, r1, hN1, hm1, hv1, hk1, hf1⟩ := HR.out
      obtain ⟨A', C', hA, hcase⟩ := HP.out w1 hk1
      injection hA with e1 e2 e3
      clear e2
      subst e1 e3
      obtain ⟨b, o, rfl, hin⟩ := hcase.resolve_left (fun e => by rw [e] at hx; simp at hx)
      obtain ⟨u, hrange, hbs, hbl⟩ := hin k x hx
      obtain ⟨xf, xt, xb⟩ := x
      dsimp only at hrange hbs hbl
      obtain ⟨ua, uc, rfl, _⟩ := byteSl_len hbs
      have hzr : Rw (w1.alloc (.cells #[.int .i64 0, .int .i64 0, .slice none 0 0] 52)) 0 w1.heap.size 52 [.int .i64 0, .int .i64 0, .slice none 0 0] := Rw.alloc w1 _ _ (Nat.zero_le _)
      have hy : (k : Int) < (n : Int) := by omega
      have hq1 : (q : Int) < 1000000000000 := by omega
      have HKL := Lib.hid hlt
      have htk : ls.take (k + 1) = ls.take k ++ [⟨xf, xt, xb⟩] := take_succ_of hx
      have HTK := Lib.hid htk
      have d0 : w1.cell? ⟨b, o + k * 3, none⟩ = some (.int .i64 xf) := hrange 0 _ rfl
      have d1 : w1.cell? ⟨b, o + k * 3 + 1, none⟩ = some (.int .i64 xt) := hrange 1 _ rfl
      have d2 : w1.cell? ⟨b, o + k * 3 + 2, none⟩ = some (.slice ua xb.length uc) := hrange 2 _ rfl
      have HTH := Lib.hid (Rw.there hzr 0 3 (Nat.le_refl _))
      have HBS := Lib.hid hbs
      have HBL := Lib.hid hbl
      have HN1 := Lib.hid hN1
      have HM1 := Lib.hid hm1
      have HV1 := Lib.hid hv1
      have HK1 := Lib.hid hk1
      have HF1 := Lib.hid hf1
      have HNB := Lib.hid hnb
      have HQK := Lib.hid hqk
      have HK0 := Lib.hid hk
      clear htk hrange hzr hbs hbl hN1 hm1 hv1 hk1 hf1 hx hin hcase hlt hk hnb hq1 hqk
      go_wp2_with (first | (refine wpList_alloc_z rfl 52 rfl #[.int .i64 0, .int .i64 0, .slice none 0 0] hz ?_) | (refine wpList_store_mid rfl 52 (.tmp 7) (.tmp 15) rfl w1.heap.size 0 #[.int .i64 xf, .int .i64 xt, .slice ua xb.length uc] rfl rfl HTH.out Try.infoPk (pk_one _ _ _ _ _) ?_) | fail)
      obtain ⟨hb2, hr2⟩ := round_pk (w := w1) (f := xf) (t := xt) (u := .slice ua xb.length uc)
      obtain ⟨gp, hgp⟩ : ∃ gp, gp = w1.heap.size := ⟨_, rfl⟩
      have HB2 := Lib.hid hb2
      rw [← hgp] at hr2 HB2
      simp only [← hgp]
      have HGP := Lib.hid hgp
      obtain ⟨w2, hw2⟩ : ∃ w2, w2 = (w1.alloc (.cells #[.int .i64 0, .int .i64 0, .slice none 0 0] 52)).setCells gp 0 [.int .i64 xf, .int .i64 xt, .slice ua xb.length uc] := ⟨_, rfl⟩
      rw [← hw2] at hr2 HB2 ⊢
      rw [hgp] at HB2
      have HN2 := Lib.hid (netAt_below HN1.out HB2.out)
      have HR2 := Lib.hid hr2
      have c0 : w2.cell? ⟨gp, 0, none⟩ = some (.int .i64 xf) := Rw.cell hr2 rfl
      have c1 : w2.cell? ⟨gp, 1, none⟩ = some (.int .i64 xt) := Rw.cell hr2 rfl
      have c2 : w2.cell? ⟨gp, 2, none⟩ = some (.slice ua xb.length uc) := Rw.cell hr2 rfl
      obtain ⟨bf, hbf⟩ : ∃ bf, bf = decide (r1.length < 64) := ⟨_, rfl⟩
      have HFU := Lib.hid (qfull_any HN2.out)
      rw [← hbf] at HFU
      have HBF := Lib.hid hbf
      have HLN : Hid (r1.length = (sendM ps (ls.take k)).2.length) := Lib.hid (by rw [HPS.out, ← HM1.out, List.length_map])
      clear hbf hw2 hgp hr2 hb2
      cases bf with
      | false =>
        have hsk := sendR_skip (x := ⟨xf, xt, xb⟩) (sendR_below HR.out HB2.out) (by rw [← HPS.out, ← HLN.out, ← HBF.out]; rfl)
        have HSK := Lib.hid hsk
        clear hsk
        refine (HFU.out).mono ?_
        rintro e w3 ⟨rfl, rfl⟩
        have hkb : (k : Int) < 1000000000000 := by have := HKL.out; have := HNB.out; omega
        go_wp2_with fail
        go_roundw
        case rel =>
          have := HKL.out
          have := HQK.out
          refine ⟨k + 1, q, by omega, by go_num, rfl, by omega, Lib.hid ?_, Lib.hid ?_⟩
          · rw [HTK.out, HQ.out, HPS.out]
            exact HSK.out.2.symm
          · rw [HTK.out]
            exact HSK.out.1
        case measure => have := HKL.out; simp [intOf]; omega
      | true =>
        refine (HFU.out).mono ?_
        rintro e w3 ⟨rfl, hw3⟩
        cases hw3.symm
        obtain ⟨bt, hbt⟩ : ∃ bt, bt = travB ⟨xf, xt, xb⟩ := ⟨_, rfl⟩
        have htr := travels_any ⟨xf, xt, xb⟩ (.slice ua xb.length uc) w2
        rw [← hbt] at htr
        have HTR := Lib.hid htr
        have HBT := Lib.hid hbt
        clear htr hbt
        cases bt with
        | false =>
          have hsk := sendR_skip (x := ⟨xf, xt, xb⟩) HR.out (by rw [← HBT.out, Bool.and_false])
          have HSK := Lib.hid hsk
          clear hsk
          go_wp2_with fail
          refine (HTR.out).mono ?_
          rintro e w4 ⟨rfl, hb4⟩
          have HSR := Lib.hid (sendR_below HSK.out.1 (below_then HB2.out hb4))
          have hkb : (k : Int) < 1000000000000 := by have := HKL.out; have := HNB.out; omega
          clear hb4
          go_wp2_with fail
          go_roundw
          case rel =>
            have := HKL.out
            have := HQK.out
            refine ⟨k + 1, q, by omega, by go_num, rfl, by omega, Lib.hid ?_, Lib.hid ?_⟩
            · rw [HTK.out, HQ.out, HPS.out]
              exact HSK.out.2.symm
            · rw [HTK.out]
              exact HSR.out
          case measure => have := HKL.out; simp [intOf]; omega
        | true =>
          have henter : Enters Try.prog 52 := enters_of Try.func52 (by kernel_rfl) rfl
          go_wp2_with fail
          refine (HTR.out).mono ?_
          rintro e w4 ⟨rfl, hb4⟩
          have hb14 : Below w1.heap.size w1 w4.drew := below_draws (below_then HB2.out hb4) ⟨1, rfl⟩
          have hr4 := Rw.below HR2.out hb4
          have e0 : w4.cell? ⟨gp, 0, none⟩ = some (.int .i64 xf) := Rw.cell hr4 rfl
          have e1 : w4.cell? ⟨gp, 1, none⟩ = some (.int .i64 xt) := Rw.cell hr4 rfl
          have e2 : w4.cell? ⟨gp, 2, none⟩ = some (.slice ua xb.length uc) := Rw.cell hr4 rfl
          have hadd := add_any (netAt_below HN1.out hb14) ⟨xf, xt, xb⟩ (.slice ua xb.length uc) (ByteSl.more3 (ByteSl.keep HBS.out hb14 (Nat.le_refl _)) hb14.size) HBL.out (by have := of_decide_eq_true HBF.out.symm; omega)
          have HADD := Lib.hid hadd
          have HB14 := Lib.hid hb14
          clear hb14 hr4 hadd hb4
          go_wp2_with fail
          go_region_law (refine step_call rfl 52 _ _ rfl #[.pointer (some ⟨g, 0, none⟩), .agg #[.int .i64 xf, .int .i64 xt, .slice ua xb.length uc]] (by simp [go_sem]) henter HADD.out ?_; rintro e w5 ⟨rfl, u', hu5, hv5⟩; refine ⟨_, rfl, ?_⟩)
          have hsr := sendR_add (x := ⟨xf, xt, xb⟩) HM1.out HV1.out HK1.out HF1.out (by rw [← HPS.out, ← HLN.out, ← HBF.out, ← HBT.out]; rfl) (fun j hj => Nat.le_trans HK1.out.size (Nat.le_trans HB14.out.size (hu5 j hj))) (netV_of HB14.out hv5)
          have HSR := Lib.hid hsr
          have hkb : (k : Int) < 1000000000000 := by have := HKL.out; have := HNB.out; omega
          have hqb : (q : Int) < 1000000000000 := by have := HQK.out; omega
          clear hv5 hu5 hsr e0 e1 e2 c0 c1 c2 d0 d1 d2
          go_wp2_with fail
          go_roundw
          case rel =>
            have := HKL.out
            have := HQK.out
            refine ⟨k + 1, q + 1, by omega, by go_num, by go_num, by omega, Lib.hid ?_, Lib.hid ?_⟩
            · rw [HTK.out, HQ.out, HPS.out]
              exact HSR.out.2.symm
            · rw [HTK.out]
              exact HSR.out.1
          case measure => have := HKL.out; simp [intOf]; omega
    · have hyk : ¬ (k : Int) < (n : Int) := by omega
      have htk : ls.take k = ls := List.take_of_length_le (by rw [← HN.out]; omega)
      have HQ2 : Hid (q = (sendM ps ls).1) := Lib.hid (by rw [HQ.out, htk])
      have HR2 : Hid (SendR 93 w g v rs ls w1) := Lib.hid (by have := HR.out; rw [htk] at this; exact this)
      clear hlt hk htk hnb hqk
      go_wp2_with fail
      go_ret
      exact ⟨by rw [← HQ2.out]; rfl, sentV_of HR2.out⟩

end Go.Proofs.Ytneomfhlkdpnjaa
