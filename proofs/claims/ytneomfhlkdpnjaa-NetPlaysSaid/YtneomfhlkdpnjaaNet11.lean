/- Contracts: the code's net: Deliver, Drop. -/
import Derived.BigRegion
import Derived.Deep.RegionHeld3
import Derived.Test.YtneomfhlkdpnjaaProg
import Derived.Test.YtneomfhlkdpnjaaKit
import Derived.Test.YtneomfhlkdpnjaaRow
import Derived.Test.YtneomfhlkdpnjaaCod7
import Derived.Test.YtneomfhlkdpnjaaTxt2
import Derived.Test.YtneomfhlkdpnjaaFp
import Derived.Test.YtneomfhlkdpnjaaDsk6
import Derived.Test.YtneomfhlkdpnjaaNet0
import Derived.Test.YtneomfhlkdpnjaaNet1
import Derived.Test.YtneomfhlkdpnjaaNet2
import Derived.Test.YtneomfhlkdpnjaaNet6
import Derived.Test.YtneomfhlkdpnjaaNet8
import Derived.Test.YtneomfhlkdpnjaaNet10
namespace Go.Proofs.Ytneomfhlkdpnjaa
open Go.RowKit Go.Proofs

theorem bytP_set {W : World} {hs : Nat} {r : RecP} {ys cs : List Value} (h : BytP W r) (hr : Rw W 0 hs 52 cs) : BytP (W.setCells hs 0 ys) r :=
  ⟨own_same h.1 (fun k hk => setCells_heap _ _ _ _ _ (by rintro rfl; exact own_rw h.1 hr (by decide) hk)), h.2⟩

theorem netV_set {T : TypeId} {w w2 : World} {g : Nat} {v : Value} {rs rs' : List RecP} {o : Obj} {ys cs : List Value} (h : NetAt T w g v rs) (hv : NetV T (w.alloc o) w2 g v rs') (hr : Rw w2 0 w.heap.size 52 cs) : NetV T w (w2.setCells w.heap.size 0 ys) g v rs' := by
  obtain ⟨v', h1, h2, h3⟩ := hv
  have hgw : g < w.heap.size := Rw.size h.1
  have hb : Below w.heap.size w (w.alloc o) := below_more (Below.refl _ _) o
  refine ⟨v', netAt_same h1 (fun k hk => setCells_heap _ _ _ _ _ ?_) (fun r hr2 k hk => setCells_heap _ _ _ _ _ ?_), fun k hk => (h2 k hk).imp id (Nat.le_trans hb.size), ?_⟩
  · rintro rfl
    rcases hk with hk | hk
    · omega
    · rcases h2 _ hk with h4 | h4
      · have := own_lt h.2.1 h4
        omega
      · simp at h4
        omega
  · rintro rfl
    exact own_rw (h1.2.2 r hr2).1 hr (by decide) hk
  · exact kept_setCells (kept_then (kept_below hb) h3 (fun k hk => .inl hk)) (.inr (Nat.le_refl _)) 0 ys

theorem netV_alloc {T : TypeId} {w w2 : World} {g : Nat} {v : Value} {rs' : List RecP} {o : Obj} (hv : NetV T (w.alloc o) w2 g v rs') : NetV T w w2 g v rs' := netV_of (below_more (Below.refl _ _) o) hv

/-- The result's block stays while the net's are turned. -/
theorem res_kept {T : TypeId} {w w2 : World} {g : Nat} {v : Value} {rs : List RecP} {Z : Array Value} (h : NetAt T w g v rs) (hk : Kept (Foot g v) (w.alloc (.cells Z 52)) w2) : Rw w2 0 w.heap.size 52 Z.toList := by
  refine rw_kept (Rw.alloc w _ _ (Nat.zero_le _)) hk (fun hf => ?_)
  have := netAt_lt h hf
  omega

set_option maxRecDepth 100000 in
theorem deliver_no {w : World} {g : Nat} {v : Value} {rs : List RecP} (h : NetAt 93 w g v rs) {k : Int} (hk : inNB k rs.length = false) :
    Calls Try.prog 15 #[.pointer (some ⟨g, 0, none⟩), .int .i64 k] w fun e w' => e = .returned (.tuple #[zeroPk, .bool false]) ∧ Below w.heap.size w w' := by
  have hbA : Below w.heap.size w (w.alloc (.cells #[.int .i64 0, .int .i64 0, .slice none 0 0] 52)) := below_more (Below.refl _ _) _
  have hhas := has_any (netAt_below h hbA) k
  rw [hk] at hhas
  have hzr : Rw (w.alloc (.cells #[.int .i64 0, .int .i64 0, .slice none 0 0] 52)) 0 w.heap.size 52 [.int .i64 0, .int .i64 0, .slice none 0 0] := Rw.alloc w _ _ (Nat.zero_le _)
  have hz := zero_cells Try.infoPkz
  have HH := Lib.hid hhas
  have HBA := Lib.hid hbA
  have HZR := Lib.hid hzr
  have HTH := Lib.hid (Rw.there hzr 0 3 (Nat.le_refl _))
  clear h hbA hhas hzr hk
  go_enter Try.func15, Try.ntmps15
  go_wp2_with (first | (refine wpList_alloc_z rfl 52 rfl #[.int .i64 0, .int .i64 0, .slice none 0 0] hz ?_) | fail)
  refine (HH.out).mono ?_
  rintro e w2 ⟨rfl, rfl⟩
  go_wp2_with (first | (refine wpList_store_mid rfl 52 (.tmp 4) (.tmp 10) rfl w.heap.size 0 #[.int .i64 0, .int .i64 0, .slice none 0 0] rfl rfl HTH.out Try.infoPk (pk_one _ _ _ _ _) ?_) | fail)
  obtain ⟨hend, hbe⟩ := pk_back (f := 0) (t := 0) (a := none) (n := 0) (c := 0) HZR.out HBA.out
  refine bodyPost_ret (v := .tuple #[zeroPk, .bool false]) ?_ rfl ⟨rfl, hbe⟩
  exact results_row_tmp rfl _ _ w.heap.size 0 _ [.int .i64 0, .int .i64 0, .slice none 0 0] _ rfl hend Try.underlying52 rfl Try.infoPk _ rfl

set_option maxRecDepth 100000 in
theorem deliver_yes {w : World} {g : Nat} {v : Value} {rs : List RecP} (h : NetAt 93 w g v rs) {k : Nat} {r : RecP} (hk : rs[k]? = some r) (hn : rs.length < 1000000) :
    Calls Try.prog 15 #[.pointer (some ⟨g, 0, none⟩), .int .i64 k] w fun e w' => ∃ a c, r.u = .slice a r.p.b.length c ∧ e = .returned (.tuple #[.agg #[.int .i64 r.p.f, .int .i64 r.p.t, .slice a r.p.b.length c], .bool true]) ∧ NetV 93 w w' g v (rs.eraseIdx k) ∧ BytP w' r := by
  have hA := netAt_below h (below_more (Below.refl _ _) (.cells #[.int .i64 0, .int .i64 0, .slice none 0 0] 52))
  have hhas := has_any hA (k : Int)
  rw [inNB_not (List.getElem?_eq_some_iff.1 hk).1] at hhas
  have hz := zero_cells Try.infoPkz
  have HH := Lib.hid hhas
  have HTK := Lib.hid (take_any hA hk hn)
  have H := Lib.hid h
  obtain ⟨⟨f, t, b⟩, u⟩ := r
  dsimp only at HTK ⊢
  clear h hA hhas hk hn
  go_enter Try.func15, Try.ntmps15
  go_wp2_with (first | (refine wpList_alloc_z rfl 52 rfl #[.int .i64 0, .int .i64 0, .slice none 0 0] hz ?_) | fail)
  refine (HH.out).mono ?_
  rintro e w2 ⟨rfl, hw2⟩
  cases hw2.symm
  go_wp2_with fail
  refine (HTK.out).mono ?_
  rintro e w3 ⟨ua, uc, hu, rfl, hv3, hby3⟩
  have hr3 : Rw w3 0 w.heap.size 52 [.int .i64 0, .int .i64 0, .slice none 0 0] := by
    obtain ⟨_, _, _, h3⟩ := hv3
    exact res_kept H.out h3
  have HTH := Lib.hid (Rw.there hr3 0 3 (Nat.le_refl _))
  have HV := Lib.hid (netV_set (ys := [.int .i64 f, .int .i64 t, .slice ua b.length uc]) H.out hv3 hr3)
  have HBY := Lib.hid (bytP_set (ys := [.int .i64 f, .int .i64 t, .slice ua b.length uc]) hby3 hr3)
  have HEND := Lib.hid (Rw.storedAll hr3 [.int .i64 f, .int .i64 t, .slice ua b.length uc] rfl)
  have HU := Lib.hid hu
  clear hr3 hv3 hby3 hu
  go_wp2_with (first | (refine wpList_store_mid rfl 52 (.tmp 4) (.tmp 15) rfl w.heap.size 0 #[.int .i64 f, .int .i64 t, .slice ua b.length uc] rfl rfl HTH.out Try.infoPk (pk_one _ _ _ _ _) ?_) | fail)
  refine bodyPost_ret (v := .tuple #[.agg #[.int .i64 f, .int .i64 t, .slice ua b.length uc], .bool true]) ?_ rfl ⟨ua, uc, HU.out, rfl, HV.out, HBY.out⟩
  exact results_row_tmp rfl _ _ w.heap.size 0 _ [.int .i64 f, .int .i64 t, .slice ua b.length uc] _ rfl HEND.out Try.underlying52 rfl Try.infoPk _ rfl

theorem drop_no {w : World} {g : Nat} {v : Value} {rs : List RecP} (h : NetAt 93 w g v rs) {k : Int} (hk : inNB k rs.length = false) :
    Calls Try.prog 18 #[.pointer (some ⟨g, 0, none⟩), .int .i64 k] w fun e w' => e = .returned (.bool false) ∧ Below w.heap.size w w' := by
  have HD := Lib.hid (deliver_no h hk)
  have hz := zero_cells Try.infoPkz
  clear h hk
  unfold zeroPk at HD
  go_enter Try.func18, Try.ntmps18
  go_wp2_with fail
  refine (HD.out).mono ?_
  rintro e w2 ⟨rfl, hb2⟩
  have HB := Lib.hid (below_more hb2 (.cells #[.int .i64 0, .int .i64 0, .slice none 0 0] 52))
  clear hb2
  go_wp2_with (first | (refine wpList_alloc_z rfl 52 rfl #[.int .i64 0, .int .i64 0, .slice none 0 0] hz ?_) | fail)
  go_ret
  exact ⟨rfl, HB.out⟩

theorem drop_yes {w : World} {g : Nat} {v : Value} {rs : List RecP} (h : NetAt 93 w g v rs) {k : Nat} {r : RecP} (hk : rs[k]? = some r) (hn : rs.length < 1000000) :
    Calls Try.prog 18 #[.pointer (some ⟨g, 0, none⟩), .int .i64 k] w fun e w' => e = .returned (.bool true) ∧ NetV 93 w w' g v (rs.eraseIdx k) := by
  have HD := Lib.hid (deliver_yes h hk hn)
  have hz := zero_cells Try.infoPkz
  obtain ⟨⟨f, t, b⟩, u⟩ := r
  dsimp only at HD
  clear h hk hn
  go_enter Try.func18, Try.ntmps18
  go_wp2_with fail
  refine (HD.out).mono ?_
  rintro e w2 ⟨ua, uc, _, rfl, hv2, _⟩
  have HV := Lib.hid (netV_more hv2 (below_more (Below.refl _ _) (.cells #[.int .i64 f, .int .i64 t, .slice ua b.length uc] 52)))
  clear hv2
  go_wp2_with (first | (refine wpList_alloc_z rfl 52 rfl #[.int .i64 0, .int .i64 0, .slice none 0 0] hz ?_) | fail)
  go_ret
  exact ⟨rfl, HV.out⟩

end Go.Proofs.Ytneomfhlkdpnjaa
