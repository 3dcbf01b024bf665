/-
  ShaOwn: for every slice of bytes the digest and the sum neither change nor keep what is handed in; the law returns true, and what was there has not turned. No condition.
-/
import Derived.Deep.RegionHeld3
import Derived.BigRegion
import Derived.Test.YtcpioladmcidcaaProg
import Derived.Test.YtcpioladmcidcaaKit
import Derived.Test.YtcpioladmcidcaaLaw
import Derived.Test.YtcpioladmcidcaaInfo
import Derived.Test.YtcpioladmcidcaaRow
import Derived.Test.YtcpioladmcidcaaRow2
import Derived.Test.YtcpioladmcidcaaCod2
import Derived.Test.YtcpioladmcidcaaCod5
import Derived.Test.YtcpioladmcidcaaCod6
import Derived.Test.YtcpioladmcidcaaCod7
import Derived.Test.YtcpioladmcidcaaCod8
import Derived.Test.YtcpioladmcidcaaCod9
import Derived.Test.YtcpioladmcidcaaLaw2
namespace Go.Proofs.Ytcpioladmcidcaa
open Go.ChangeShapes Go.WideShapes Go.ChangeAt Go.RowKit Go.Proofs
open Go.ChangeMaps (open_string shut_string)

/-- What stands while sums are taken. -/
def Keeps (w : World) (gd gx : Nat) (l : List UInt8) (F : List Value) (W : World) : Prop := DigAt W gd gd l ∧ Below w.heap.size w W ∧ Rw W gx gx 27 F

theorem Keeps.next {w W W' : World} {gd gx : Nat} {l : List UInt8} {F : List Value} (h : Keeps w gd gx l F W) (hb : Below W.heap.size W W') : Keeps w gd gx l F W' :=
  ⟨h.1.below hb, h.2.1.trans (hb.mono h.2.1.size), h.2.2.below hb⟩

theorem Keeps.both {w W W' : World} {gd gx : Nat} {l : List UInt8} {F : List Value} (h : Keeps w gd gx l F W) (hb : Below W.heap.size W W') : Keeps w gd gx l F W' ∧ W'.rangeAt gx 0 F := ⟨h.next hb, (h.next hb).2.2.whole⟩

theorem Keeps.on {w W W' : World} {gd gx : Nat} {l : List UInt8} {F : List Value} (h : Keeps w gd gx l F W ∧ W.rangeAt gx 0 F) (hb : Below W.heap.size W W') : Keeps w gd gx l F W' ∧ W'.rangeAt gx 0 F := h.1.both hb

theorem Keeps.dig {w W : World} {gd gx : Nat} {l : List UInt8} {F : List Value} (h : Keeps w gd gx l F W ∧ W.rangeAt gx 0 F) : DigAt W gd gd l := h.1.1

set_option maxRecDepth 100000 in
set_option maxHeartbeats 1000000 in
theorem shaOwn_any (v : Value) (l : List UInt8) (w : World) (hv : ByteSl w w.heap.size v l) (hl : l.length ≤ 140737488351232) :
    Calls Try.prog 7 #[v] w fun e w' => e = .returned (.bool true) ∧ Below w.heap.size w w' := by
  obtain ⟨a, c, rfl⟩ : ∃ a c, v = .slice a l.length c := by
    rcases hv with ⟨rfl, rfl⟩ | ⟨ad, c, rfl, _, _⟩
    · exact ⟨none, 0, rfl⟩
    · exact ⟨_, _, rfl⟩
  obtain ⟨n, hn⟩ : ∃ n, n = l.length := ⟨_, rfl⟩
  rw [← hn] at hv hl ⊢
  have HV := Lib.hid hv
  have HN := Lib.hid hn
  clear hv hn
  by_cases hlong : 700 < n
  · have h2 : (700 : Int) < (n : Int) := by omega
    go_enter Try.func7, Try.ntmps7
    go_wp2_with fail
    refine (awake_any _).mono ?_
    rintro e w' ⟨rfl, hb1⟩
    have HB := Lib.hid hb1
    clear hb1
    go_wp2
    go_ret
    exact ⟨rfl, HB.out⟩
  · have h2 : ¬ (700 : Int) < (n : Int) := by omega
    have hll : Hid (l.length < 4294967296) := Lib.hid (by rw [← HN.out]; omega)
    obtain ⟨i0, hi, hz0, hz1, hz2⟩ := info_parts Try.infoByte
    obtain ⟨Z, hz, hZ⟩ : ∃ Z, (∀ w, (zeroValue 27).run Try.prog w = .ok (.agg Z) w) ∧ Z = Array.replicate 32 (.int .u8 0) := ⟨_, zero_cells Try.infoHash, rfl⟩
    have HZ := Lib.hid hZ
    clear hZ
    go_enter Try.func7, Try.ntmps7
    go_wp2_with (at_builtin; refine wpList_append_sl rfl _ _ 23 rfl w.heap.size 5 i0 (.int .u8 0) Try.underlying23 hi hz0 hz1 hz2 rfl _ 0 [] rfl (World.ownsRow_lit w #[] 0 (Nat.le_refl _) (by decide) rfl) _ l rfl w.heap.size (HV.out.keep (below_more (Below.refl w.heap.size w) _) (Nat.le_refl _)) (by rw [← HN.out]; omega) (by simp) ?_; intro v1 w1 hown1 hb1)
    have hw1 : Below w.heap.size w w1 := (below_more (Below.refl w.heap.size w) _).trans hb1
    rw [Nat.zero_add, List.nil_append, ← HN.out] at hown1
    obtain ⟨a1, c1, rfl⟩ := own_len hown1
    have hs1 := own_sl hown1
    have HOWN := Lib.hid hown1
    have HB1 := Lib.hid hw1
    have HS1 := Lib.hid hs1
    clear hown1 hb1 hw1 hs1
    refine (new_any w1).mono ?_
    rintro e w2 ⟨rfl, hd2, hb2⟩
    obtain ⟨gd, hgd⟩ : ∃ gd, gd = w1.heap.size := ⟨_, rfl⟩
    rw [← hgd] at hd2 hb2 ⊢
    have HGD := Lib.hid hgd
    have HD2 := Lib.hid hd2
    have HB2 := Lib.hid hb2
    clear hd2 hb2 hgd
    obtain ⟨_, _, hsv, hlc, hli⟩ := HS1.out.part
    injection hsv with q1 q2 q3
    subst q1; subst q3
    have hwr := write_any gd gd [] l a1 c1 w2 HD2.out ((hli.keep (by rw [← HGD.out]; exact HB2.out) (Nat.le_refl _)).out (by rw [HGD.out]; exact Nat.le_refl _)) hlc (by rw [← HN.out]; simp; omega)
    rw [← HN.out, List.nil_append] at hwr
    have HWR := Lib.hid hwr
    have HLC := Lib.hid hlc
    have HLI := Lib.hid hli
    clear hwr q2 hlc hli
    go_wp2_with fail
    refine (HWR.out).mono ?_
    rintro e w3 ⟨rfl, hd3, hs3⟩
    have hb13 : Below w1.heap.size w1 w3 := by
      rw [← HGD.out]
      exact hs3.below (by rw [HGD.out] at HB2 ⊢; exact HB2.out) (Nat.le_refl _) (by have := HB2.out.size; have := HGD.out; omega)
    have HD3 := Lib.hid hd3
    have HB13 := Lib.hid hb13
    clear hd3 hs3 hb13 HWR HD2
    go_wp2_with fail
    have hps := parts_alloc w3 #[.slice a1 n c1] 23 (0, 0) [l] (fun j m hj => by
      match j, hj with
      | 0, hj =>
        cases hj
        refine ⟨.slice a1 n c1, rfl, a1, c1, by rw [← HN.out], HLC.out, ?_⟩
        exact (HLI.out.keep HB13.out (Nat.le_refl _)).more HB13.out.size) 1
    have HPS := Lib.hid hps
    have hb4 : Below w3.heap.size w3 (w3.alloc (.cells #[.slice a1 n c1] 23)) := below_more (Below.refl _ _) _
    have hd4 := HD3.out.below hb4
    have hb14 : Below w1.heap.size w1 (w3.alloc (.cells #[.slice a1 n c1] 23)) := below_then HB13.out hb4
    clear hps hb4
    generalize w3.alloc (.cells #[.slice a1 n c1] 23) = w4 at HPS hd4 hb14 ⊢
    refine (sum_any [l] _ w4 HPS.out (by simp; rw [← HN.out]; omega) (by simp)).mono ?_
    rintro e w5 ⟨rfl, hb5⟩
    rw [show ([l] : List (List UInt8)).flatten = l from by simp]
    have HD5 := Lib.hid (hd4.below hb5)
    have hb15 := below_then hb14 hb5
    have HB15 := Lib.hid hb15
    obtain ⟨F, hFV, hF, hFl, hF1⟩ := shaV_list l
    have hr5 := Rw.alloc w5 27 Z (base := w5.heap.size) (Nat.le_refl _)
    have HR5 := Lib.hid hr5
    have HIF : Hid ((Try.prog.info? 27).map (·.size) = some F.length) := Lib.hid (by rw [hFl]; exact Try.infoHashn)
    have HZF : Hid (Z.toList.length = F.length) := Lib.hid (by rw [HZ.out, hFl]; simp)
    have HF1 := Lib.hid hF1
    have HF := Lib.hid hF
    have HFV := Lib.hid hFV
    rw [hFV]
    clear hd4 hb14 hb5 hb15 hFV hF hFl hF1 hr5 HPS
    go_wp2_with (first | (refine wpList_alloc_z rfl 27 rfl Z hz ?_) | (refine wpList_store_mid rfl 27 _ _ rfl w5.heap.size 0 F.toArray rfl rfl (HR5.out.there 0 _ (by rw [HZF.out]; simp)) (by rw [HIF.out]; simp) (all_oneCell_toArray HF1.out) ?_) | fail)
    have hr6 := HR5.out.storedAll F HZF.out
    have hb6 : Below w5.heap.size w5 ((w5.alloc (.cells Z 27)).setCells w5.heap.size 0 F) := below_setCells (Nat.le_refl _) _ _ _ (below_more (Below.refl _ _) _)
    obtain ⟨gx, hgx⟩ : ∃ gx, gx = w5.heap.size := ⟨_, rfl⟩
    rw [← hgx] at hr6 hb6
    simp only [← hgx]
    have hd6 := HD5.out.below (w' := (w5.alloc (.cells Z 27)).setCells gx 0 F) (by rw [← hgx]; exact hb6)
    have hb16 : Below w1.heap.size w1 ((w5.alloc (.cells Z 27)).setCells gx 0 F) := below_then HB15.out (by rw [← hgx]; exact hb6)
    have hgw : w1.heap.size ≤ gx := by rw [hgx]; exact HB15.out.size
    generalize (w5.alloc (.cells Z 27)).setCells gx 0 F = w6 at hr6 hb6 hd6 hb16 ⊢
    have HR6 := Lib.hid hr6
    have HD6 := Lib.hid hd6
    have HB16 := Lib.hid hb16
    have HGX := Lib.hid hgw
    clear hr6 hb6 hd6 hb16 hgw hgx HD5 HB15 HR5 HD3 HB13
    have hsa : SliceAt w6 (.slice a1 n c1) (l.map byteV) := by rw [HN.out]; exact (HLI.out.keep HB16.out (Nat.le_refl _)).sliceAt c1
    have hsb : SliceAt w6 (.slice a n c) (l.map byteV) := by
      obtain ⟨a', c', hv, _, hli⟩ := HV.out.part
      have hli6 : Lies w6 w.heap.size a' l := hli.keep (HB1.out.trans (HB16.out.mono HB1.out.size)) (Nat.le_refl _)
      rw [hv]
      exact hli6.sliceAt c'
    refine (bytes_same l _ _ w6 (by rw [← HN.out]; omega) hsa hsb).mono ?_
    rintro e w7 ⟨rfl, hd7⟩
    have HR7 := Lib.hid (HR6.out.drew hd7)
    have HD7 := Lib.hid (HD6.out.below (below_draws (Below.refl _ _) hd7))
    have HB17 := Lib.hid (below_draws HB16.out hd7)
    clear hsa hsb hd7 HR6 HD6 HB16
    go_wp2_with fail
    have hown7 : w7.ownsRow w.heap.size 5 1 (.slice a1 n c1) n (l.map byteV) := own_below HOWN.out HB17.out
    have HO7 := Lib.hid hown7
    have HBW7 := Lib.hid (HB1.out.trans (HB17.out.mono HB1.out.size))
    clear hown7 hlong h2
    go_loopw [7] (fun i wr => ∃ (k : Nat) (ys : List UInt8), k ≤ n ∧ i = .int .i64 k ∧ Hid (ys.length = n) ∧ Hid (wr.ownsRow w.heap.size 5 1 (.slice a1 n c1) n (ys.map byteV)) ∧ Hid (DigAt wr gd gd l) ∧ Hid (Rw wr gx gx 27 F) ∧ Hid (Below w.heap.size w wr)) (fun i _ => n - (intOf i).toNat)
    case atStart => exact ⟨0, l, by omega, rfl, Lib.hid HN.out.symm, HO7, HD7, HR7, HBW7⟩
    case round =>
      clear HO7 HD7 HR7 HBW7 HB17
      obtain ⟨k, ys, hk, rfl, HY, HO, HD, HR, HB⟩ := hrel
      obtain ⟨w8, hw8⟩ : ∃ w8 : World, w8 = wr := ⟨_, rfl⟩
      subst hw8
      by_cases hlt : k < n
      · obtain ⟨x, hx⟩ : ∃ x, ys[k]? = some x := ⟨_, List.getElem?_eq_getElem (by rw [HY.out]; exact hlt)⟩
        obtain ⟨gc, cc, hsv, hgc⟩ := own_some HO.out (by omega)
        injection hsv with q1 q2 q3
        subst q1
        have hlne : l ≠ [] := by intro e; have := HN.out; rw [e] at this; simp at this; omega
        have hgc1 : gc < w1.heap.size := by
          obtain ⟨b, o, ha, hb, _⟩ := HLI.out.resolve_left hlne
          injection ha with ha
          injection ha with ha
          omega
        have cx : w8.cell? ⟨gc, k, none⟩ = some (.int .u8 (x.toNat : Int)) := (HO.out.cellAt k (by omega)).trans (by rw [List.getElem?_map, hx]; rfl)
        have fx := HO.out.frozenAt k
        have hy : (k : Int) < (n : Int) := by omega
        have HV8 : Hid (Value.int .u8 (((x.toNat : Int) + 1) % 256) = byteV (x + 1)) := Lib.hid (by
          unfold byteV
          congr 1)
        have HGC := Lib.hid hgc
        have HGC1 := Lib.hid hgc1
        have HKL := Lib.hid hlt
        clear hx q2 q3 hlne hgc hgc1 hk
        go_wp2
        go_roundw
        case rel =>
          have hk := HKL.out
          have hg1 := HGC1.out
          have hg2 := HGC.out
          have hg3 := HGX.out
          have hg4 := HGD.out
          refine ⟨k + 1, ys.set k (x + 1), by omega, by go_num, Lib.hid (by rw [List.length_set]; exact HY.out), Lib.hid ?_, Lib.hid ?_, Lib.hid (HR.out.other (by omega) _ _), Lib.hid (HB.out.setCell hg2 _)⟩
          · rw [HV8.out, List.map_set]
            exact (HO.out.stored k _).1
          · obtain ⟨s, b, h1, h2, hr⟩ := HD.out
            exact ⟨s, b, h1, h2, hr.other (by omega) _ _⟩
        case measure => have := HKL.out; simp [intOf]; omega
      · clear hk
        have hld : ∀ W : World, Keeps w gd gx l F W → (Instr.loadAt 27 (.pointer (some ⟨gx, 0, none⟩))).run Try.prog W = .ok (.agg F.toArray) W := fun W h => run_loadAt_mid W gx 0 27 F _ h.2.2.whole Try.underlying27 rfl HIF.out
        have heq : ∀ W : World, (Op.equalIn 10000 27 (.agg F.toArray) (.agg F.toArray)).run Try.prog W = .ok true W := fun W => by
          rw [HF.out, eq_bytes Try.underlying27 Try.underlying5 (zero_of_info3 Try.infoByte) _ _ (sha_len l) (sha_len l) W]
          simp
        have hks : Keeps w gd gx l F w8 := ⟨HD.out, HB.out, HR.out⟩
        have hu := Try.underlying27
        have hif := HIF.out
        clear HO HD HR HB
        go_wp2_with fail
        go_region_held3 (fun W => Keeps w gd gx l F W ∧ W.rangeAt gx 0 F)
          (first
            | exact Keeps.both hks (below_draws (Below.refl _ _) ⟨1, rfl⟩)
            | exact Keeps.on (by assumption) hb)
          (first
            | (go_at_call 18; refine (dsum_any gd gd l _ (Keeps.dig (by assumption)) hll.out).mono ?_; rintro e w' ⟨rfl, hb⟩; rw [HFV.out])
            | (go_at_call 9; refine (awake_any _).mono ?_; rintro e w' ⟨rfl, hb⟩))
        go_wp2
        go_ret
        refine ⟨rfl, ?_⟩
        first
          | exact (show Keeps w gd gx l F _ by assumption).2.1
          | exact (show Keeps w gd gx l F _ ∧ _ by assumption).1.2.1

theorem shaOwn_own : ownKnob Try.prog.godebug = none := by kernel_rfl

theorem shaOwn_bytesByte : Try.prog.bytesOf 5 = 1 := by kernel_rfl

set_option maxRecDepth 100000 in
theorem shaOwn_lifted (os : Os) (started : os.Started) (H : Type) (enc : TypeId × Value → H) :
    ReturnsInHanded {} Try.checked os 7 .any (Rows.shaOwnSpec.pre6 enc Try.prog Try.f7 Rows.shaOwnRow.domain false) (Rows.shaOwnSpec.post enc Try.prog Try.f7 false true false false) := by
  refine law_lifted (C := Try.checked) shaOwn_own started (by kernel_rfl) Try.func7
    (ChangeSpec.witness6 (enc := enc) (C := Try.checked) false ⟨#[], #[.slice none 0 0], []⟩ 8 (by kernel_rfl) (by kernel_rfl) (by kernel_rfl) (by kernel_rfl))
    (by kernel_rfl) (of_decide_eq_true (by kernel_rfl)) (tb := 4) (by kernel_rfl) Try.underlying4 rfl (fun ds h => by match ds, h with | [d0], _ => exact ⟨rfl, rfl, rfl⟩) ?_
  intro W base args ds p hval0 hA0 hlt hsz0
  have hval : ∀ (j : Nat) t v, Try.f7.params[j]? = some t → args[j]? = some v → Value.okWide Try.prog W .any base t v := hval0
  have hA : DataW.TrodAll enc Try.prog W 0 (fun _ => true) true Try.f7.params.toList args.toList ds p := hA0
  have hsz : (DataW.weightsEach Try.prog Try.f7.params.toList ds).all (· ≤ reachBytes) = true := hsz0
  rw [Try.params7] at hA hval hsz
  obtain ⟨v0, vs0, d0, ds0, p0, q0, hargs, rfl, rfl, h0, r0⟩ := trodAll_cons hA
  obtain ⟨rfl, rfl, rfl⟩ := trodAll_nil r0
  obtain rfl : args = #[v0] := by cases args; simp_all
  have s0 := sized_at hsz (j := 0) (t := 23) (d := d0) rfl rfl
  obtain ⟨a0, g0, z0⟩ := open_bytes Try.underlying23 Try.underlying5 (by kernel_rfl) shaOwn_bytesByte (hval 0 23 v0 rfl rfl) h0 s0
  exact shaOwn_any (w := W) v0 a0 g0 z0

theorem shaOwn_over : Rows.shaOwnRow.holds Try.pinned (OpenSpec.ofChange Rows.shaOwnSpec) :=
  OpenClaim.holds_of_wide 7 Try.f7 rfl rfl rfl rfl rfl rfl rfl ⟨rfl, rfl, rfl, rfl, rfl⟩ rfl rfl rfl rfl rfl (by kernel_rfl) Try.func7 (by kernel_rfl)
    (of_decide_eq_true (by kernel_rfl)) (by unfold Func.isWrapper; first | (rw [if_pos (by decide +kernel)]; kernel_rfl) | (rw [if_neg (by decide +kernel)]; exact ⟨rfl, rfl⟩))
    (fun os started H enc _ => shaOwn_lifted os started H enc)

theorem shaOwn_proved : Rows.ShaOwnSaid := shaOwn_over
#print axioms shaOwn_proved

end Go.Proofs.Ytcpioladmcidcaa
