/- Contracts: the code's Write. -/
import Derived.Deep.RegionHeld3
import Derived.Deep.RegionLaw
import Derived.BigRegion
import Derived.Test.YtcpioladmcidcaaProg
import Derived.Test.YtcpioladmcidcaaKit
import Derived.Test.YtcpioladmcidcaaInfo
import Derived.Test.YtcpioladmcidcaaRow
import Derived.Test.YtcpioladmcidcaaU32
import Derived.Test.YtcpioladmcidcaaSha
import Derived.Test.YtcpioladmcidcaaRow2
import Derived.Test.YtcpioladmcidcaaLit
import Derived.Test.YtcpioladmcidcaaCod2
import Derived.Test.YtcpioladmcidcaaCod3
import Derived.Test.YtcpioladmcidcaaDig0
namespace Go.Proofs.Ytcpioladmcidcaa
open Go.RowKit Go.Proofs

theorem Save.cell {B g : Nat} {w w' : World} (h : Save B g w w') {p : Addr} (hp : p.block < B) (hg : p.block ≠ g) : w'.cell? p = w.cell? p := by
  unfold World.cell?
  rw [h.block p.block hp hg]

theorem ByAt.save {B g b o : Nat} {l : List UInt8} {w w' : World} (h : ByAt w b o l) (hs : Save B g w w') (hB : w.heap.size ≤ B) (hb : b ≠ g) : ByAt w' b o l := fun j x hj => by
  have h1 := h j x hj
  rw [hs.cell (p := ⟨b, o + j, none⟩) (Nat.lt_of_lt_of_le (block_of_cell h1) hB) hb]
  exact h1

/-- Bytes that lie outside block g. -/
def Out (w : World) (g : Nat) (a : Option Addr) (m : List UInt8) : Prop := m = [] ∨ ∃ b o, a = some ⟨b, o, none⟩ ∧ b ≠ g ∧ ByAt w b o m

/-- The digest in block g was written l. -/
def DigAt (w : World) (base g : Nat) (l : List UInt8) : Prop := ∃ s b, Waits l b ∧ WordsOf kL h0S l s ∧ Rw w base g 47 (digL s l.length b)

theorem byteV_one {l : List UInt8} : ∀ v ∈ l.map byteV, v.oneCell' = true := by
  intro v hv
  obtain ⟨x, _, rfl⟩ := List.mem_map.1 hv
  rfl

def digPre (s : H8) (n : Int) (b : List UInt8) (r : Nat) : List Value := s.l.map wV ++ (.int .u64 n :: (b.take r).map byteV)

theorem digPre_len {s : H8} {n : Int} {b : List UInt8} {r : Nat} (h : r ≤ b.length) : (digPre s n b r).length = 9 + r := by
  simp [digPre, H8.l]
  omega

theorem digL_split {s : H8} {n : Int} {b : List UInt8} {r k : Nat} : digL s n b = digPre s n b r ++ (((b.drop r).take k).map byteV ++ (b.drop (r + k)).map byteV) := by
  unfold digL digPre
  rw [List.append_assoc, List.cons_append, ← List.map_append, ← List.map_append, ← List.drop_drop, List.take_append_drop, List.take_append_drop]

theorem digL_join {s : H8} {n : Int} {b y : List UInt8} {r k : Nat} : digPre s n b r ++ (y.map byteV ++ (b.drop (r + k)).map byteV) = digL s n (b.take r ++ (y ++ b.drop (r + k))) := by
  unfold digL digPre
  rw [List.append_assoc, List.cons_append, ← List.map_append, ← List.map_append]

theorem digL_len8 {s : H8} {n n' : Int} {b : List UInt8} : (digL s n b).set 8 (.int .u64 n') = digL s n' b := rfl

theorem run_size1 {P : Program} {t : TypeId} (hs : (P.info? t).map (·.size) = some 1) (W : World) : (sizeOf t).run P W = .ok 1 W := by
  cases hq : P.info? t with
  | none => simp [hq] at hs
  | some i =>
    have : i.size = 1 := by simpa [hq] using hs
    simp [sizeOf, typeInfo, hq, this, Sem.run_bind]

theorem slice_from {P : Program} {t : TypeId} (ht : P.underlying t = some (.slice (P.elem t))) (hs : (P.info? (P.elem t)).map (·.size) = some 1) (b o len cap n : Nat) (h : n ≤ len) (W : World) :
    (Instr.slice t (.slice (some ⟨b, o, none⟩) len cap) (some (.int .i64 (n : Int))) none none).run P W = .ok (.slice (if cap = n then some ⟨b, o, none⟩ else some ⟨b, o + n, none⟩) (len - n) (cap - n)) W := by
  rw [run_slice_l W t (some ⟨b, o, none⟩) len cap ht .i64 n (by omega) (by omega), run_size1 hs]
  simp [Result.andThen, sliced, Addr.add_mid]

/-- What is left behind n of the bytes. -/
theorem out_drop {w : World} {g b o cap n : Nat} {l : List UInt8} (hb : b ≠ g) (h : ByAt w b o l) (hn : n ≤ l.length) (hc : l.length ≤ cap) : Out w g (if cap = n then some ⟨b, o, none⟩ else some ⟨b, o + n, none⟩) (l.drop n) := by
  by_cases he : cap = n
  · exact .inl (List.drop_of_length_le (by omega))
  · rw [if_neg he]
    refine .inr ⟨b, o + n, rfl, hb, fun j x hj => ?_⟩
    rw [List.getElem?_drop] at hj
    rw [Nat.add_assoc]
    exact h (n + j) x hj

set_option maxRecDepth 100000 in
set_option maxHeartbeats 2000000 in
theorem write_any (base g : Nat) (l m : List UInt8) (a : Option Addr) (c : Nat) (w : World) (hd : DigAt w base g l) (ha : Out w g a m) (hc : m.length ≤ c) (hl : l.length + m.length < 1099511627776) :
    Calls Try.prog 17 #[.pointer (some ⟨g, 0, none⟩), .slice a m.length c] w fun e w' => e = .returned (.tuple #[]) ∧ DigAt w' base g (l ++ m) ∧ Save w.heap.size g w w' := by
  have HD := Lib.hid hd
  have HA := Lib.hid ha
  have hgw : g < w.heap.size := by obtain ⟨s, b, _, _, hr⟩ := hd; exact hr.size
  clear hd ha
  go_enter Try.func17, Try.ntmps17
  go_wp2_with fail
  go_loopw [1] (fun v wr => ∃ (done rest : List UInt8) (a : Option Addr) (c : Nat), v = .slice a rest.length c ∧ rest.length ≤ c ∧ Hid (m = done ++ rest) ∧ Hid (Out w g a rest) ∧ Hid (DigAt wr base g (l ++ done)) ∧ Hid (Save w.heap.size g w wr)) (fun v _ => lenOf v)
  case atStart => exact ⟨[], m, a, c, rfl, hc, Lib.hid rfl, HA, Lib.hid (by rw [List.append_nil]; exact HD.out), Lib.hid (Save.refl _ _ _)⟩
  case round =>
    clear HD HA hc
    obtain ⟨done, rest, a, c, rfl, hc, HM, HA, HD, HS⟩ := hrel
    obtain ⟨w1, hw1⟩ : ∃ w1 : World, w1 = wr := ⟨_, rfl⟩
    subst hw1
    by_cases hlt : 0 < rest.length
    · obtain ⟨cur, hcur⟩ : ∃ cur, cur = l ++ done := ⟨_, rfl⟩
      have hd := HD.out
      rw [← hcur] at hd
      obtain ⟨s, b, hwt, hws, hr⟩ := hd
      have hml : cur.length + rest.length < 1099511627776 := by
        have := congrArg List.length HM.out
        rw [List.length_append] at this
        rw [hcur, List.length_append]
        omega
      obtain ⟨N, hN⟩ : ∃ N, N = cur.length := ⟨_, rfl⟩
      rw [← hN] at hr hml
      have c8 : w1.cell? ⟨g, 8, none⟩ = some (.int .u64 (N : Int)) := hr.cell digL_num
      have HR := Lib.hid hr
      have HWT := Lib.hid hwt
      have HWS := Lib.hid hws
      have HCUR := Lib.hid hcur
      have HN := Lib.hid hN
      clear hcur hwt hws hr hN
      by_cases h0 : N = 0
      case' pos =>
        have hz : ((N : Int) == 0) = true := by rw [beq_iff_eq]; omega
        have HS2 : Hid (h0S = blocksS kL cur h0S (cur.length / 64)) := Lib.hid (by
          have : cur = [] := List.eq_nil_of_length_eq_zero (by rw [← HN.out]; exact h0)
          rw [this]
          rfl)
        have H0 := Lib.hid h0
        clear h0
        go_wp2_with fail
        refine (start_any base g s N b w1 HR.out).mono ?_
        rintro e w2 ⟨rfl, hr2, hs2⟩
        have HR2 := Lib.hid hr2
        have HSV2 := Lib.hid (HS.out.trans (hs2.less HS.out.size))
        clear hr2 hs2 hz c8
        go_wp2_with fail
        obtain ⟨s2, hs2⟩ : ∃ s2, s2 = h0S := ⟨_, rfl⟩
        replace HS2 : Hid (s2 = blocksS kL cur h0S (cur.length / 64)) := Lib.hid (by rw [hs2]; exact HS2.out)
        rw [← hs2] at HR2
        clear hs2 HR HWS H0 HD HS
      case' neg =>
        have hz : ((N : Int) == 0) = false := by rw [beq_eq_false_iff_ne]; omega
        have HS2 : Hid (s = blocksS kL cur h0S (cur.length / 64)) := Lib.hid (HWS.out (by
          intro e
          apply h0
          rw [HN.out, e]
          rfl))
        clear h0
        go_wp2_with fail
        obtain ⟨w2, hw2⟩ : ∃ w2, w2 = w1 := ⟨_, rfl⟩
        have HR2 : Hid (Rw w2 base g 47 (digL s N b)) := Lib.hid (by rw [hw2]; exact HR.out)
        have HSV2 : Hid (Save w.heap.size g w w2) := Lib.hid (by rw [hw2]; exact HS.out)
        rw [← hw2]
        obtain ⟨s2, hs2⟩ : ∃ s2, s2 = s := ⟨_, rfl⟩
        rw [← hs2] at HS2 HR2
        clear hs2 HR HWS HD HS hz c8 hw2
      all_goals
        have hne : rest ≠ [] := by intro e; rw [e] at hlt; simp at hlt
        obtain ⟨b0, o0, rfl, hb0, hby⟩ := HA.out.resolve_left hne
        have hby2 : ByAt w2 b0 o0 rest := hby.save HSV2.out (Nat.le_refl _) hb0
        have HBY := Lib.hid hby
        clear HA hne hby
        have c8 : w2.cell? ⟨g, 8, none⟩ = some (.int .u64 (N : Int)) := HR2.out.cell digL_num
        obtain ⟨r, hr⟩ : ∃ r, r = N % 64 := ⟨_, rfl⟩
        obtain ⟨n, hn⟩ : ∃ n, n = Nat.min rest.length (64 - r) := ⟨_, rfl⟩
        have hr64 : (r : Int) < 64 := by omega
        have hbl : b.length = 64 := HWT.out.1
        have hn1 : n ≤ rest.length := by rw [hn]; exact Nat.min_le_left _ _
        have hn2 : n ≤ 64 - r := by rw [hn]; exact Nat.min_le_right _ _
        have hn3 : 1 ≤ n := by rw [hn]; exact Nat.le_min.2 ⟨by omega, by omega⟩
        obtain ⟨y, hy⟩ : ∃ y, y = rest.take n := ⟨_, rfl⟩
        have hyl : y.length = n := by rw [hy, List.length_take]; omega
        have hR := HR2.out
        rw [digL_split (r := r) (k := n)] at hR
        have HRS := Lib.hid hR
        have HPL : Hid ((digPre s2 N b r).length = 9 + r) := Lib.hid (digPre_len (by omega))
        have HXL : Hid ((((b.drop r).take n).map byteV).length = (y.map byteV).length) := Lib.hid (by simp [hyl, hbl]; omega)
        have HYL : Hid ((y.map byteV).length = Nat.min rest.length (64 - r)) := Lib.hid (by rw [List.length_map, hyl, hn])
        have HSRC : Hid (∀ j v, (y.map byteV)[j]? = some v → w2.cell? ((⟨b0, o0, none⟩ : Addr).add j) = some v) := Lib.hid (by
          intro j v hv
          rw [Addr.add_mid]
          rw [List.getElem?_map] at hv
          obtain ⟨x, hx, rfl⟩ := Option.map_eq_some_iff.1 hv
          rw [hy, List.getElem?_take] at hx
          split at hx
          · exact hby2 j x hx
          · cases hx)
        have HR64 : Hid (r = N % 64) := Lib.hid hr
        have HNM := Lib.hid hn
        have HY := Lib.hid hy
        have HYN := Lib.hid hyl
        have HBL := Lib.hid hbl
        have hmod : (N : Int) % 64 = (r : Int) := by omega
        have hrle : (r : Int) ≤ 64 := by omega
        have hrne : ¬ 64 = r := by omega
        have htmod : Int.tmod (N : Int) 64 = (r : Int) := by rw [Int.tmod_eq_emod_of_nonneg (by omega)]; omega
        have hus : (Try.prog.info? 5).map (·.size) = some 1 := (zero_of_info3 Try.infoByte)
        clear hr hn hy hyl hbl hR hby2
        go_region_law (refine step_copy_save rfl (.tmp 27) (.tmp 28) 23 23 rfl 5 Try.underlying23 hus (64 - r) (64 - r) rest.length c g (9 + r) ⟨b0, o0, none⟩ rfl rfl (digPre s2 N b r) _ _ 47 base HRS.out HPL.out (y.map byteV) HYL.out HXL.out HSRC.out byteV_one w.heap.size w (HSV2.out.draws ⟨1, rfl⟩) ?_; intro w4 hg4 hb4)
        rw [digL_join] at hg4
        have c8b : w4.cell? ⟨g, 8, none⟩ = some (.int .u64 (N : Int)) := hg4.out.cell digL_num
        have f8b := hg4.out.free 8
        simp only [HYN.out]
        have hsl : ∃ A, Out w g A (rest.drop n) ∧ (∀ W, (Instr.slice 23 (.slice (some ⟨b0, o0, none⟩) rest.length c) (some (.int .i64 (n : Int))) none none).run Try.prog W = .ok (.slice A (rest.length - n) (c - n)) W) :=
          ⟨_, out_drop hb0 HBY.out hn1 hc, fun W => slice_from (by kernel_rfl) (by kernel_rfl) b0 o0 rest.length c n hn1 W⟩
        obtain ⟨A, hA, hsl⟩ := hsl
        have HA2 := Lib.hid hA
        have hmt : done ++ rest = (done ++ y) ++ rest.drop n := by rw [List.append_assoc, HY.out, List.take_append_drop]
        have HMT := Lib.hid hmt
        have HNN : Hid (N + n = (cur ++ y).length) := Lib.hid (by rw [List.length_append, HYN.out, HN.out])
        have hbig : (N : Int) + (n : Int) < 1099511627776 := by omega
        have hn0 : 0 ≤ (n : Int) := by omega
        clear c8 hmod htmod hrle hrne hr64 hA hmt
        by_cases hfull : r + n = 64
        case' pos =>
          have hmz : ((((N : Int) + (n : Int)) % 64) == 0) = true := by rw [beq_iff_eq]; have := HR64.out; omega
          have HW1 := Lib.hid (waits_full2 (y := y) HWT.out (by have := HR64.out; have := HN.out; have := HYN.out; omega))
          have HW2 := Lib.hid (words_full (y := y) HS2.out HWT.out (by have := HR64.out; have := HN.out; have := HYN.out; omega))
          have hrn : cur.length % 64 + y.length = r + n := by have := HR64.out; have := HN.out; have := HYN.out; omega
          have hrr : cur.length % 64 = r := by have := HR64.out; have := HN.out; omega
          rw [hrn, hrr] at HW1 HW2
          have hfin := hg4.out.stored 8 (.int .u64 ((N : Int) + (n : Int)))
          rw [digL_len8] at hfin
          obtain ⟨bb, hbb⟩ : ∃ bb, bb = b.take r ++ (y ++ b.drop (r + n)) := ⟨_, rfl⟩
          rw [← hbb] at hfin HW1 HW2
          have HFI := Lib.hid hfin
          have HB4 := Lib.hid (hb4.out.put 8 (.int .u64 ((N : Int) + (n : Int))))
          have HLT := Lib.hid hn3
          have HN1 := Lib.hid hn1
          have HHC := Lib.hid hc
          clear hfull hrn hrr hn3 hfin hbb
          go_wp2_with fail
          clear c8b f8b hmz hsl
          generalize w4.setCell ⟨g, 8, none⟩ (.int .u64 ((N : Int) + (n : Int))) = w5 at HFI HB4 ⊢
          go_region_with ((go_at_call 24; refine (mix_any base g s2 _ bb w5.drew HW1.out.1 (Rw.drew HFI.out ⟨1, rfl⟩)).mono ?_; rintro e w6 ⟨rfl, hr6, hs6⟩))
          have HR6 := Lib.hid hr6
          have HS6 := Lib.hid ((HB4.out.draws ⟨1, rfl⟩).trans (hs6.less HB4.out.size))
          clear hr6 hs6
          go_wp2_with fail
          go_roundw
          case rel =>
            have hn1 := HN1.out
            have hc := HHC.out
            refine ⟨done ++ y, rest.drop n, A, c - n, by rw [List.length_drop], by rw [List.length_drop]; omega, Lib.hid (by rw [HM.out, HMT.out]), HA2, Lib.hid ?_, HS6⟩
            have hfin := HR6.out
            rw [show (N : Int) + (n : Int) = ((cur ++ y).length : Int) from by have := HNN.out; omega, HCUR.out] at hfin
            rw [← List.append_assoc]
            rw [HCUR.out] at HW1 HW2
            exact ⟨_, bb, HW1.out, HW2.out, hfin⟩
          case measure =>
            have hn3 := HLT.out
            have hn1 := HN1.out
            simp [lenOf]
            omega
        case' neg =>
          have hmz : ((((N : Int) + (n : Int)) % 64) == 0) = false := by rw [beq_eq_false_iff_ne]; have := HR64.out; omega
          have HW1 := Lib.hid (waits_less (y := y) HWT.out (by have := HR64.out; have := HN.out; have := HYN.out; omega))
          have HW2 := Lib.hid (words_less (y := y) HS2.out (by have := HR64.out; have := HN.out; have := HYN.out; omega))
          have hrn : cur.length % 64 + y.length = r + n := by have := HR64.out; have := HN.out; have := HYN.out; omega
          have hrr : cur.length % 64 = r := by have := HR64.out; have := HN.out; omega
          rw [hrn, hrr] at HW1
          have HLT := Lib.hid hn3
          have HN1 := Lib.hid hn1
          have HHC := Lib.hid hc
          clear hfull hrn hrr hn3
          go_wp2_with fail
          go_roundw
          case rel =>
            have hn1 := HN1.out
            have hc := HHC.out
            refine ⟨done ++ y, rest.drop n, A, c - n, by rw [List.length_drop], by rw [List.length_drop]; omega, Lib.hid (by rw [HM.out, HMT.out]), HA2, Lib.hid ?_, Lib.hid (hb4.out.put 8 _)⟩
            have hfin := hg4.out.stored 8 (.int .u64 ((N : Int) + (n : Int)))
            rw [digL_len8, show (N : Int) + (n : Int) = ((cur ++ y).length : Int) from by have := HNN.out; omega, HCUR.out] at hfin
            rw [← List.append_assoc, show (N : Int) + (n : Int) = ((cur ++ y).length : Int) from by have := HNN.out; omega, HCUR.out]
            rw [HCUR.out] at HW1 HW2
            exact ⟨s2, _, HW1.out, HW2.out, hfin⟩
          case measure =>
            have hn3 := HLT.out
            have hn1 := HN1.out
            simp [lenOf]
            omega
    · have he : rest = [] := List.eq_nil_of_length_eq_zero (by omega)
      have HME : Hid (m = done) := Lib.hid (by rw [HM.out, he, List.append_nil])
      clear he
      go_wp2
      go_end0
      rw [HME.out]
      exact ⟨rfl, HD.out, HS.out⟩

end Go.Proofs.Ytcpioladmcidcaa
