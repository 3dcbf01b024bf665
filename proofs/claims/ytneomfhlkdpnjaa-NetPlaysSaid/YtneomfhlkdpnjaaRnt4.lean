/- Contracts: the reference net: Send. -/
import Derived.BigRegion
import Derived.Deep.RegionHeld3
import Derived.Deep.RegionLaw
import Derived.Deep.AppendLies
import Derived.Test.YtneomfhlkdpnjaaProg
import Derived.Test.YtneomfhlkdpnjaaKit
import Derived.Test.YtneomfhlkdpnjaaInfo
import Derived.Test.YtneomfhlkdpnjaaRow
import Derived.Test.YtneomfhlkdpnjaaSha
import Derived.Test.YtneomfhlkdpnjaaRow2
import Derived.Test.YtneomfhlkdpnjaaCod5
import Derived.Test.YtneomfhlkdpnjaaCod7
import Derived.Test.YtneomfhlkdpnjaaCod9
import Derived.Test.YtneomfhlkdpnjaaFrm4
import Derived.Test.YtneomfhlkdpnjaaFrm6
import Derived.Test.YtneomfhlkdpnjaaFrm12
import Derived.Test.YtneomfhlkdpnjaaFp
import Derived.Test.YtneomfhlkdpnjaaRdk1
import Derived.Test.YtneomfhlkdpnjaaNet0
import Derived.Test.YtneomfhlkdpnjaaNet3
import Derived.Test.YtneomfhlkdpnjaaNet4
import Derived.Test.YtneomfhlkdpnjaaNet5
namespace Go.Proofs.Ytneomfhlkdpnjaa
open Go.RowKit Go.Proofs

theorem wpList_append_slw {P : Program} {w : World} {ops : Array Oper} {rest : List Oper} {o : Oper} {a : Act} {Q : Exit → Act → World → Prop} (hgd : o.guard = none) (s x : Operand) (t : TypeId)
    (ho : o.op = .call { callee := .builtin .append, args := #[s, x], argTypes := #[t, t] })
    (base : Nat) (e : TypeId) (i : TypeInfo) (z : Value) (ht : P.underlying t = some (.slice e)) (hi : P.info? e = some i) (hz : i.zero = some z)
    (hsize : i.size = 1) (hby : i.bytes = 1) (hzs : z.cells.size = 1)
    (v : Value) (n : Nat) (xs : List Value) (hs : a.eval s = v) (hown : w.ownsRow base e 1 v n xs)
    (u : Value) (l : List UInt8) (hx : a.eval x = u) (B : Nat) (hl : ByteSl w B u l) (hn : n + l.length ≤ 140737488355328) (hbase : base ≤ w.heap.size)
    (h : ∀ v' w', w'.ownsRow base e 1 v' (n + l.length) (xs ++ l.map byteV) → Below base w w' → wpList P ops Q rest (a.put o.dst v') w') : wpList P ops Q (o :: rest) a w := by
  rcases hl with ⟨rfl, rfl⟩ | ⟨ad, c, rfl, hc, hlies⟩
  · refine wpList_append_own_none hgd s x t ho base e i 1 ht hi v n xs hs hown hx ?_
    refine h v w ?_ (Below.refl _ _)
    rw [List.map_nil, List.append_nil]
    exact hown
  · refine wpList_append_own _ hgd s x t ho base e i z 1 1 ht hi hz hsize hby hzs (by decide) v n xs hs hown ad l.length c (l.map byteV) hx (by simp) ?_ byteV_one (by unfold maxLen; omega) (by omega) hbase ?_
    · intro j u hj
      rcases hlies with rfl | ⟨b, o, ha, _, hb⟩
      · simp at hj
      · cases ha
        rw [Addr.add_mid]
        rw [List.getElem?_map] at hj
        obtain ⟨y, hy, rfl⟩ := Option.map_eq_some_iff.1 hj
        exact hb j y hy
    · intro v' w' hown' hg _
      exact h v' w' hown' (below_own hown hg hbase)

set_option maxRecDepth 100000 in
set_option maxHeartbeats 8000000 in
theorem rsend_any {w : World} {g : Nat} {v : Value} {rs : List RecP} (h : NetAt 45 w g v rs) (ls : List PkM) (vin : Value) (hp : ∀ w', Kept (Foot g v) w w' → PksIn w' vin ls) (hn : ls.length ≤ 100) (hrs : rs.length ≤ 64) :
    Calls Try.prog 14 #[.pointer (some ⟨g, 0, none⟩), vin] w fun e w' => e = .returned (.int .i64 (sendM (rs.map (·.p)) ls).1) ∧ SentV 45 w w' g v rs ls := by
  obtain ⟨A, C, rfl, _⟩ := hp w (kept_refl _ _)
  obtain ⟨n, hnn⟩ : ∃ n, n = ls.length := ⟨_, rfl⟩
  rw [← hnn] at hp hn ⊢
  obtain ⟨ps, hps⟩ : ∃ ps, ps = rs.map (·.p) := ⟨_, rfl⟩
  have HPL : Hid (ps.length ≤ 64) := Lib.hid (by rw [hps, List.length_map]; exact hrs)
  have HPS := Lib.hid hps
  have H := Lib.hid h
  have HP := Lib.hid hp
  have HN := Lib.hid hnn
  have HNB := Lib.hid hn
  obtain ⟨i0, hi0, hz0, hz1, hz2⟩ := info_parts Try.infoPacket
  obtain ⟨ib, hib, hzb0, hzb1, hzb2⟩ := info_parts Try.infoByte
  have hz := zero_cells Try.infoPkz
  rw [← hps]
  clear h hp hnn hn hps hrs
  go_enter Try.func14, Try.ntmps14
  go_wp2_with fail
  go_loopw [5, 6] (fun c i wr => ∃ (k q : Nat), k ≤ n ∧ i = .int .i64 k ∧ c = .int .i64 q ∧ q ≤ k ∧ Hid (q = (sendM ps (ls.take k)).1) ∧ Hid (SendR 45 w g v rs (ls.take k) wr)) (fun _ i _ => n - (intOf i).toNat)
  case atStart => exact ⟨0, 0, Nat.zero_le _, rfl, rfl, Nat.le_refl _, Lib.hid rfl, Lib.hid (sendR_start H.out)⟩
  case round =>
    obtain ⟨k, q, hk, rfl, rfl, hqk, HQ, HR⟩ := hrel
    obtain ⟨w1, hw1⟩ : ∃ w1 : World, w1 = wr := ⟨_, rfl⟩
    subst hw1
    by_cases hlt : k < n
    · obtain ⟨x, hx⟩ : ∃ x, ls[k]? = some x := ⟨_, List.getElem?_eq_getElem (by rw [← HN.out]; exact hlt)⟩
      obtain ⟨v1, r1, hN1, hm1, hv1, hk1, hf1⟩ := HR.out
      obtain ⟨A', C', hA, hcase⟩ := HP.out w1 hk1
      injection hA with e1 e2 e3
      clear e2
      subst e1 e3
      obtain ⟨b, o, rfl, hin⟩ := hcase.resolve_left (fun e => by rw [e] at hx; simp at hx)
      obtain ⟨u, hrange, hbs, hbl⟩ := hin k x hx
      obtain ⟨xf, xt, xb⟩ := x
      dsimp only at hrange hbs hbl
      obtain ⟨ua, uc, rfl, _⟩ := byteSl_len hbs
      have d0 : w1.cell? ⟨b, o + k * 3, none⟩ = some (.int .i64 xf) := hrange 0 _ rfl
      have d1 : w1.cell? ⟨b, o + k * 3 + 1, none⟩ = some (.int .i64 xt) := hrange 1 _ rfl
      have d2 : w1.cell? ⟨b, o + k * 3 + 2, none⟩ = some (.slice ua xb.length uc) := hrange 2 _ rfl
      obtain ⟨va1, vc1, rfl⟩ := own_len hN1.2.1
      obtain ⟨L, hL⟩ : ∃ L, L = r1.length := ⟨_, rfl⟩
      obtain ⟨M, hM⟩ : ∃ M, M = xb.length := ⟨_, rfl⟩
      have hb2 : Below w1.heap.size w1 (w1.alloc (.cells #[.int .i64 xf, .int .i64 xt, .slice ua xb.length uc] 52)) := below_more (Below.refl _ _) _
      have cg : (w1.alloc (.cells #[.int .i64 xf, .int .i64 xt, .slice ua M uc] 52)).cell? ⟨g, 0, none⟩ = some (.slice va1 L vc1) := by rw [hL, hM]; exact Rw.cell (netAt_below hN1 hb2).1 rfl
      have hy : (k : Int) < (n : Int) := by omega
      have hk100 : (k : Int) < 100 := by have := HNB.out; omega
      have hq100 : (q : Int) < 100 := by omega
      have HKL := Lib.hid hlt
      have HQK := Lib.hid hqk
      have HTK := Lib.hid (show ls.take (k + 1) = ls.take k ++ [⟨xf, xt, xb⟩] from take_succ_of hx)
      have HBS := Lib.hid hbs
      have HBL := Lib.hid hbl
      have HN1 := Lib.hid hN1
      have HM1 := Lib.hid hm1
      have HV1 := Lib.hid hv1
      have HK1 := Lib.hid hk1
      have HF1 := Lib.hid hf1
      have HL := Lib.hid hL
      have HM := Lib.hid hM
      have HB2 := Lib.hid hb2
      have HLN : Hid (L = (sendM ps (ls.take k)).2.length) := Lib.hid (by rw [HPS.out, ← HM1.out, List.length_map, hL])
      rw [← hM] at d2
      clear hrange hbs hbl hN1 hm1 hv1 hk1 hf1 hx hin hcase hlt hk hL hM hb2 hqk
      by_cases hl : L < 64
      case neg =>
        have hl2 : decide ((64 : Int) ≤ (L : Int)) = true := decide_eq_true (by omega)
        have hsk := sendR_skip (x := ⟨xf, xt, xb⟩) HR.out (by rw [← HPS.out, ← HLN.out]; rw [decide_eq_false hl, Bool.false_and])
        have HSK := Lib.hid hsk
        have HSR := Lib.hid (sendR_below hsk.1 HB2.out)
        rw [← HM.out] at HSR
        clear hsk
        go_wp2_with (first | (refine wpList_alloc_z rfl 52 rfl #[.int .i64 0, .int .i64 0, .slice none 0 0] hz ?_) | fail)
        go_roundw
        case rel =>
          have := HKL.out
          have := HQK.out
          refine ⟨k + 1, q, by omega, by go_num, rfl, by omega, Lib.hid ?_, Lib.hid ?_⟩
          · rw [HTK.out, HQ.out, HPS.out]
            exact HSK.out.2.symm
          · rw [HTK.out]
            exact HSR.out
        case measure => have := HKL.out; simp [intOf]; omega
      have hl2 : decide ((64 : Int) ≤ (L : Int)) = false := decide_eq_false (by omega)
      by_cases h1 : xf < 1
      case pos =>
        have htv : travB ⟨xf, xt, xb⟩ = false := by
          unfold travB nodeB
          simp only [Bool.and_eq_false_iff, decide_eq_false_iff_not]
          omega
        have hsk := sendR_skip (x := ⟨xf, xt, xb⟩) HR.out (by rw [← HPS.out, ← HLN.out]; rw [htv, Bool.and_false])
        have HSK := Lib.hid hsk
        have HSR := Lib.hid (sendR_below hsk.1 HB2.out)
        rw [← HM.out] at HSR
        clear hsk htv
        go_wp2_with (first | (refine wpList_alloc_z rfl 52 rfl #[.int .i64 0, .int .i64 0, .slice none 0 0] hz ?_) | fail)
        go_roundw
        case rel =>
          have := HKL.out
          have := HQK.out
          refine ⟨k + 1, q, by omega, by go_num, rfl, by omega, Lib.hid ?_, Lib.hid ?_⟩
          · rw [HTK.out, HQ.out, HPS.out]
            exact HSK.out.2.symm
          · rw [HTK.out]
            exact HSR.out
        case measure => have := HKL.out; simp [intOf]; omega
      by_cases h2 : 9 < xf
      case pos =>
        have htv : travB ⟨xf, xt, xb⟩ = false := by
          unfold travB nodeB
          simp only [Bool.and_eq_false_iff, decide_eq_false_iff_not]
          omega
        have hsk := sendR_skip (x := ⟨xf, xt, xb⟩) HR.out (by rw [← HPS.out, ← HLN.out]; rw [htv, Bool.and_false])
        have HSK := Lib.hid hsk
        have HSR := Lib.hid (sendR_below hsk.1 HB2.out)
        rw [← HM.out] at HSR
        clear hsk htv
        go_wp2_with (first | (refine wpList_alloc_z rfl 52 rfl #[.int .i64 0, .int .i64 0, .slice none 0 0] hz ?_) | fail)
        go_roundw
        case rel =>
          have := HKL.out
          have := HQK.out
          refine ⟨k + 1, q, by omega, by go_num, rfl, by omega, Lib.hid ?_, Lib.hid ?_⟩
          · rw [HTK.out, HQ.out, HPS.out]
            exact HSK.out.2.symm
          · rw [HTK.out]
            exact HSR.out
        case measure => have := HKL.out; simp [intOf]; omega
      by_cases h3 : xt < 1
      case pos =>
        have htv : travB ⟨xf, xt, xb⟩ = false := by
          unfold travB nodeB
          simp only [Bool.and_eq_false_iff, decide_eq_false_iff_not]
          omega
        have hsk := sendR_skip (x := ⟨xf, xt, xb⟩) HR.out (by rw [← HPS.out, ← HLN.out]; rw [htv, Bool.and_false])
        have HSK := Lib.hid hsk
        have HSR := Lib.hid (sendR_below hsk.1 HB2.out)
        rw [← HM.out] at HSR
        clear hsk htv
        go_wp2_with (first | (refine wpList_alloc_z rfl 52 rfl #[.int .i64 0, .int .i64 0, .slice none 0 0] hz ?_) | fail)
        go_roundw
        case rel =>
          have := HKL.out
          have := HQK.out
          refine ⟨k + 1, q, by omega, by go_num, rfl, by omega, Lib.hid ?_, Lib.hid ?_⟩
          · rw [HTK.out, HQ.out, HPS.out]
            exact HSK.out.2.symm
          · rw [HTK.out]
            exact HSR.out
        case measure => have := HKL.out; simp [intOf]; omega
      by_cases h4 : 9 < xt
      case pos =>
        have htv : travB ⟨xf, xt, xb⟩ = false := by
          unfold travB nodeB
          simp only [Bool.and_eq_false_iff, decide_eq_false_iff_not]
          omega
        have hsk := sendR_skip (x := ⟨xf, xt, xb⟩) HR.out (by rw [← HPS.out, ← HLN.out]; rw [htv, Bool.and_false])
        have HSK := Lib.hid hsk
        have HSR := Lib.hid (sendR_below hsk.1 HB2.out)
        rw [← HM.out] at HSR
        clear hsk htv
        go_wp2_with (first | (refine wpList_alloc_z rfl 52 rfl #[.int .i64 0, .int .i64 0, .slice none 0 0] hz ?_) | fail)
        go_roundw
        case rel =>
          have := HKL.out
          have := HQK.out
          refine ⟨k + 1, q, by omega, by go_num, rfl, by omega, Lib.hid ?_, Lib.hid ?_⟩
          · rw [HTK.out, HQ.out, HPS.out]
            exact HSK.out.2.symm
          · rw [HTK.out]
            exact HSR.out
        case measure => have := HKL.out; simp [intOf]; omega
      by_cases h5 : xf = xt
      case pos =>
        have htv : travB ⟨xf, xt, xb⟩ = false := by
          unfold travB nodeB
          simp only [Bool.and_eq_false_iff, decide_eq_false_iff_not]
          omega
        have hqe : (xf == xt) = true := by rw [beq_iff_eq]; exact h5
        clear h5
        have hsk := sendR_skip (x := ⟨xf, xt, xb⟩) HR.out (by rw [← HPS.out, ← HLN.out]; rw [htv, Bool.and_false])
        have HSK := Lib.hid hsk
        have HSR := Lib.hid (sendR_below hsk.1 HB2.out)
        rw [← HM.out] at HSR
        clear hsk htv
        go_wp2_with (first | (refine wpList_alloc_z rfl 52 rfl #[.int .i64 0, .int .i64 0, .slice none 0 0] hz ?_) | fail)
        go_roundw
        case rel =>
          have := HKL.out
          have := HQK.out
          refine ⟨k + 1, q, by omega, by go_num, rfl, by omega, Lib.hid ?_, Lib.hid ?_⟩
          · rw [HTK.out, HQ.out, HPS.out]
            exact HSK.out.2.symm
          · rw [HTK.out]
            exact HSR.out
        case measure => have := HKL.out; simp [intOf]; omega
      have hqe : (xf == xt) = false := by rw [beq_eq_false_iff_ne]; exact h5
      have HTV : Hid ((decide (L < 64) && travB ⟨xf, xt, xb⟩) = true) := Lib.hid (by
        unfold travB nodeB
        simp only [Bool.and_eq_true, decide_eq_true_eq]
        omega)
      obtain ⟨w2, hw2⟩ : ∃ w2, w2 = (w1.alloc (.cells #[.int .i64 xf, .int .i64 xt, .slice ua M uc] 52)) := ⟨_, rfl⟩
      have hb12 : Below w1.heap.size w1 w2 := by rw [hw2, HM.out]; exact HB2.out
      have hr2 : Rw w2 0 w1.heap.size 52 [.int .i64 xf, .int .i64 xt, .slice ua M uc] := by rw [hw2]; exact Rw.alloc w1 _ _ (Nat.zero_le _)
      have hb3 : Below w1.heap.size w1 ((w1.alloc (.cells #[.int .i64 xf, .int .i64 xt, .slice ua M uc] 52)).alloc (.cells #[] 5)) := below_more (by rw [← hw2]; exact hb12) _
      have hr3 : Rw ((w1.alloc (.cells #[.int .i64 xf, .int .i64 xt, .slice ua M uc] 52)).alloc (.cells #[] 5)) 0 w1.heap.size 52 [.int .i64 xf, .int .i64 xt, .slice ua M uc] := by rw [← hw2]; exact Rw.more hr2 _
      have f2 : ((w1.alloc (.cells #[.int .i64 xf, .int .i64 xt, .slice ua M uc] 52)).alloc (.cells #[] 5)).cell? ⟨w1.heap.size, 2, none⟩ = some (.slice ua M uc) := Rw.cell hr3 rfl
      have hbs3 : ByteSl ((w1.alloc (.cells #[.int .i64 xf, .int .i64 xt, .slice ua M uc] 52)).alloc (.cells #[] 5)) ((w1.alloc (.cells #[.int .i64 xf, .int .i64 xt, .slice ua M uc] 52)).alloc (.cells #[] 5)).heap.size (.slice ua M uc) xb := by
        rw [HM.out]
        rw [HM.out] at hb3
        exact ByteSl.more3 (ByteSl.keep HBS.out hb3 (Nat.le_refl _)) hb3.size
      have HBS3 := Lib.hid hbs3
      have HR3 := Lib.hid hr3
      have HB3 := Lib.hid hb3
      have HLE : Hid (0 + xb.length ≤ 140737488355328) := Lib.hid (by have := HBL.out; omega)
      have hlit : ((w1.alloc (.cells #[.int .i64 xf, .int .i64 xt, .slice ua M uc] 52)).alloc (.cells #[] 5)).ownsRow (w1.heap.size + 1) 5 1 (.slice (some ⟨w1.heap.size + 1, 0, none⟩) 0 0) 0 [] := by
        have h1 : w1.heap.size + 1 = (w1.alloc (.cells #[.int .i64 xf, .int .i64 xt, .slice ua M uc] 52)).heap.size := by simp
        rw [h1]
        exact World.ownsRow_lit (w1.alloc (.cells #[.int .i64 xf, .int .i64 xt, .slice ua M uc] 52)) #[] 0 (Nat.le_refl _) (by decide) rfl
      have HLIT := Lib.hid hlit
      have HSZ : Hid (w1.heap.size + 1 ≤ ((w1.alloc (.cells #[.int .i64 xf, .int .i64 xt, .slice ua M uc] 52)).alloc (.cells #[] 5)).heap.size) := Lib.hid (by simp)
      have HSZ2 : Hid (w1.heap.size < w1.heap.size + 1) := Lib.hid (Nat.lt_succ_self _)
      clear h5 hw2 hb12 hr2 hb3 hr3 hbs3 hlit
      go_wp2_with (first
        | (refine wpList_alloc_z rfl 52 rfl #[.int .i64 0, .int .i64 0, .slice none 0 0] hz ?_)
        | (refine wpList_append_slw rfl (.tmp 51) (.tmp 53) 50 rfl (w1.heap.size + 1) 5 ib (.int .u8 0) Try.underlying50 hib hzb0 hzb1 hzb2 rfl (.slice (some ⟨w1.heap.size + 1, 0, none⟩) 0 0) 0 [] rfl HLIT.out (.slice ua M uc) xb rfl _ HBS3.out HLE.out HSZ.out ?_; intro v4 w4 hown4 hb4; rw [Nat.zero_add, List.nil_append, ← HM.out] at hown4; obtain ⟨a4, c4, rfl⟩ := own_len hown4; have hr4 : Rw w4 0 w1.heap.size 52 [.int .i64 xf, .int .i64 xt, .slice ua M uc] := ⟨Nat.zero_le _, (hb4.block _ HSZ2.out).trans HR3.out.2⟩; have g2 : w4.cell? ⟨w1.heap.size, 2, none⟩ = some (.slice ua M uc) := Rw.cell hr4 rfl; have h2f := Rw.free hr4 2; have HR4 := Lib.hid hr4; have HO4 := Lib.hid hown4; have HB4 := Lib.hid hb4; clear hr4 hown4 hb4 f2)
        | fail)
      have hb15 : Below w1.heap.size w1 (w4.setCell ⟨w1.heap.size, 2, none⟩ (.slice a4 M c4)) := (HB3.out.trans (HB4.out.mono (Nat.le_succ _))).setCell (Nat.le_refl _) _
      have ho5 : (w4.setCell ⟨w1.heap.size, 2, none⟩ (.slice a4 M c4)).drew.ownsRow w1.heap.size 5 1 (.slice a4 M c4) M (xb.map byteV) := own_below (own_mono (own_other HO4.out HSZ2.out 2 _) (Nat.le_succ _)) (below_draws (Below.refl _ _) ⟨1, rfl⟩)
      have hs4 : AddS 45 w1 g w1.heap.size (.slice va1 L vc1) r1 xf xt (.slice a4 M c4) (w4.setCell ⟨w1.heap.size, 2, none⟩ (.slice a4 M c4)) := by
        refine ⟨?_, hb15, Rw.stored HR4.out 2 _⟩
        rw [HL.out]
        exact netAt_below HN1.out hb15
      have hs5 := addS_below hs4 (below_draws (Below.refl _ _) ⟨1, rfl⟩)
      have HB15 := Lib.hid hb15
      have HO5 := Lib.hid ho5
      obtain ⟨w5, hw5⟩ : ∃ w5, w5 = w4.setCell ⟨w1.heap.size, 2, none⟩ (.slice a4 M c4) := ⟨_, rfl⟩
      have hs6 : AddS 45 w1 g w1.heap.size (.slice va1 L vc1) r1 xf xt (.slice a4 M c4) w5.drew := by rw [hw5]; exact hs5
      have ho6 : w5.drew.ownsRow w1.heap.size 5 1 (.slice a4 M c4) M (xb.map byteV) := by rw [hw5]; exact ho5
      have HO6 := Lib.hid ho6
      have HS6 := Lib.hid hs6
      have hs7 : AddS 45 w1 g w1.heap.size (.slice va1 L vc1) r1 xf xt (.slice a4 M c4) w5 := by rw [hw5]; exact hs4
      obtain ⟨_, hcg, hc0, hc1, hc2⟩ := addS_full hs7
      have hcgA := cell_more hcg (.cells #[.int .i64 xf, .int .i64 xt, .slice a4 M c4] 52)
      rw [← hw5]
      have HMX : Hid (L + 1 ≤ maxLen) := Lib.hid (by unfold maxLen; omega)
      have HBT : Hid ((L + 1) * 40 ≤ 140737488355328) := Lib.hid (by omega)
      have HOL : Hid (w5.drew.ownsRow 0 52 3 (.slice va1 L vc1) L (rowsP r1)) := Lib.hid (by have := addS_own hs6; rw [← HL.out] at this; exact this)
      clear hb15 ho5 hs4 hs5 hw5 hs6 hs7 ho6 g2 h2f cg d0 d1 d2
      go_region_law (refine step_append_lies _ rfl _ _ 43 rfl 0 52 i0 _ 3 40 Try.underlying43 hi0 hz0 hz1 hz2 rfl (by decide) (.slice va1 L vc1) L (rowsP r1) rfl (HOL.out.alloc _) ⟨w5.drew.heap.size, 0, none⟩ 1 1 [.int .i64 xf, .int .i64 xt, .slice a4 M c4] rfl rfl (World.news_of_block (heap_alloc_new w5.drew _)) (pk_cells_one _ _ _ _ _) (by decide) HMX.out HBT.out (Nat.zero_le _) (w5.drew.heap.size + 1) (by simp) ?_; intro gg cap w6 hown6 hgrow hat hlt6; have hcc := addS_cells (by decide) HS6.out hgrow; have hc3 := hcc.1; have hf3 := hcc.2)
      all_goals
        have hnv := add_end (p := ⟨xf, xt, xb⟩) (by decide) (by decide) HS6.out (by rw [HL.out]; exact HN1.out) (by rw [← HM.out]; exact HO6.out) HBL.out (by rw [← HL.out]; exact hown6) hgrow (fun k hk => by
          simp only [Value.ownBlock, Option.some.injEq] at hk
          subst hk
          exact hat)
        have hsr := sendR_add (x := ⟨xf, xt, xb⟩) HM1.out HV1.out HK1.out HF1.out (by rw [← HPS.out, ← HLN.out]; exact HTV.out) (fun j hj => Nat.le_trans HK1.out.size (World.ownsRow.lt HO6.out j hj).1) (by rw [← HL.out]; exact hnv)
        have HSR := Lib.hid hsr
        clear hnv hsr hown6 hgrow hat hlt6 hcc hc3 hf3 hcg hcgA hc0 hc1 hc2
        go_wp2_with fail
        go_roundw
        case rel =>
          have := HKL.out
          have := HQK.out
          refine ⟨k + 1, q + 1, by omega, by go_num, by go_num, by omega, Lib.hid ?_, Lib.hid ?_⟩
          · rw [HTK.out, HQ.out, HPS.out]
            exact HSR.out.2.symm
          · rw [HTK.out]
            exact HSR.out.1
        case measure => have := HKL.out; simp [intOf]; omega
    · have hyk : ¬ (k : Int) < (n : Int) := by omega
      have htk : ls.take k = ls := List.take_of_length_le (by rw [← HN.out]; omega)
      have HQ2 : Hid (q = (sendM ps ls).1) := Lib.hid (by rw [HQ.out, htk])
      have HR2 : Hid (SendR 45 w g v rs ls w1) := Lib.hid (by have := HR.out; rw [htk] at this; exact this)
      clear hlt hk htk hqk
      go_wp2_with fail
      go_ret
      exact ⟨by rw [← HQ2.out]; rfl, sentV_of HR2.out⟩

end Go.Proofs.Ytneomfhlkdpnjaa
