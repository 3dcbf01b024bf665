/- Contracts: msg: the writer: ints, a yes, a text, a list. -/
import Derived.BigRegion
import Derived.Deep.RegionHeld3
import Derived.Deep.AppendLies
import Derived.Lib.AppendStr
import Derived.Test.YthpljpbiamjmaaaProg
import Derived.Test.YthpljpbiamjmaaaKit
import Derived.Test.YthpljpbiamjmaaaInfo
import Derived.Test.YthpljpbiamjmaaaRow
import Derived.Test.YthpljpbiamjmaaaCod7
import Derived.Test.YthpljpbiamjmaaaFrm0
import Derived.Test.YthpljpbiamjmaaaFrm4
import Derived.Test.YthpljpbiamjmaaaFp
import Derived.Test.YthpljpbiamjmaaaNet0
import Derived.Test.YthpljpbiamjmaaaKp0
import Derived.Test.YthpljpbiamjmaaaKp3
import Derived.Test.YthpljpbiamjmaaaMg0
import Derived.Test.YthpljpbiamjmaaaMg2
import Derived.Test.YthpljpbiamjmaaaMg6
namespace Go.Proofs.Ythpljpbiamjmaaa
open Go.RowKit Go.Proofs

set_option maxRecDepth 100000 in
set_option maxHeartbeats 1000000 in
theorem mints_any {w : World} {g : Nat} {v : Value} {bs : List UInt8} (h : MWrAt w g v bs) {lv : Value} {l : List Int} (hp : ∀ w', Kept (Foot g v) w w' → IntsAt w' lv l) (h0 : natsB l = true) (hs : smallI l) (hn : bs.length + 8 * l.length ≤ 1000000000) :
    Calls Try.prog 38 #[.pointer (some ⟨g, 0, none⟩), lv] w fun e w' => e = .returned (.tuple #[]) ∧ MWrV w w' g v (bs ++ intsW l) := by
  obtain ⟨A, C, rfl⟩ := intsAt_len (hp w (kept_refl _ _))
  obtain ⟨n, hnn⟩ : ∃ n, n = l.length := ⟨_, rfl⟩
  rw [← hnn] at hn hp
  rw [← hnn]
  have H := Lib.hid h
  have HP := Lib.hid hp
  have HN := Lib.hid hnn
  have HNB := Lib.hid hn
  have H0 := Lib.hid h0
  have HSM := Lib.hid hs
  clear h hp hnn hn h0 hs
  go_enter Try.func38, Try.ntmps38
  go_wp2_with fail
  go_loopw [8] (fun iv wr => ∃ (i : Nat), i ≤ n ∧ iv = .int .i64 i ∧ Hid (MWrV w wr g v (bs ++ intsW (l.take i)))) (fun iv _ => n - (intOf iv).toNat)
  case atStart => exact ⟨0, Nat.zero_le _, rfl, Lib.hid (by have := MwrV_refl H.out; simpa [intsW] using this)⟩
  case round =>
    obtain ⟨i, hi', rfl, HR⟩ := hrel
    obtain ⟨w1, hw1⟩ : ∃ w1 : World, w1 = wr := ⟨_, rfl⟩
    subst hw1
    by_cases hlt : i < n
    · obtain ⟨x, hx⟩ : ∃ x, l[i]? = some x := ⟨_, List.getElem?_eq_getElem (by rw [← HN.out]; exact hlt)⟩
      obtain ⟨v1, hN1, hv1, hk1⟩ := HR.out
      obtain ⟨b, o, rfl, d0⟩ := ints_cell (HP.out w1 hk1) hx
      have hx0 := (natsB_iff _).1 H0.out x (List.mem_of_getElem? hx)
      have hx1 := HSM.out x (List.mem_of_getElem? hx)
      obtain ⟨N, rfl⟩ := Int.eq_ofNat_of_zero_le hx0
      have HNU := Lib.hid (mnumber_any hN1 8 N (by decide) (by omega) (by
        rw [List.length_append, intsW_len, List.length_take]; have := HNB.out; have := HN.out; omega))
      have hy : (i : Int) < (n : Int) := by omega
      have hi1 : (i : Int) < 1000000 := by have h1 := (HP.out w (kept_refl _ _)).1; have := HN.out; omega
      have HI := Lib.hid hlt
      have HTK := Lib.hid (show l.take (i + 1) = l.take i ++ [(N : Int)] from take_succ_of hx)
      have HV1 := Lib.hid hv1
      have HK1 := Lib.hid hk1
      clear hN1 hv1 hk1 hx hlt hi' hx0 hx1
      go_wp2_with fail
      refine (HNU.out).mono ?_
      rintro e w2 ⟨rfl, hv2⟩
      have HE := Lib.hid (MwrV_then HV1.out HK1.out hv2)
      clear hv2 d0
      go_wp2_with fail
      go_roundw
      case rel =>
        refine ⟨i + 1, HI.out, by go_num, Lib.hid ?_⟩
        rw [HTK.out, intsW_snoc, ← List.append_assoc]
        exact HE.out
      case measure => have := HI.out; simp [intOf]; omega
    · have hyk : ¬ (i : Int) < (n : Int) := by omega
      have htk : l.take i = l := List.take_of_length_le (by rw [← HN.out]; omega)
      have HR2 := Lib.hid (show MWrV w w1 g v (bs ++ intsW l) by have := HR.out; rw [htk] at this; exact this)
      clear hlt htk hi'
      go_wp2_with fail
      go_end0
      exact ⟨rfl, HR2.out⟩

theorem myes_any {w : World} {g : Nat} {v : Value} {bs : List UInt8} (h : MWrAt w g v bs) (y : Bool) (hn : bs.length ≤ 1000000000) :
    Calls Try.prog 39 #[.pointer (some ⟨g, 0, none⟩), .bool y] w fun e w' => e = .returned (.tuple #[]) ∧ MWrV w w' g v (bs ++ yesW y) := by
  cases y
  · have HNU := Lib.hid (mnumber_any h 1 0 (by decide) (by decide) hn)
    clear h hn
    go_enter Try.func39, Try.ntmps39
    go_wp2_with fail
    refine (HNU.out).mono ?_
    rintro e w2 ⟨rfl, hv2⟩
    have HV2 := Lib.hid hv2
    clear hv2
    go_wp2_with fail
    go_end0
    exact ⟨rfl, HV2.out⟩
  · have HNU := Lib.hid (mnumber_any h 1 1 (by decide) (by decide) hn)
    clear h hn
    go_enter Try.func39, Try.ntmps39
    go_wp2_with fail
    refine (HNU.out).mono ?_
    rintro e w2 ⟨rfl, hv2⟩
    have HV2 := Lib.hid hv2
    clear hv2
    go_wp2_with fail
    go_end0
    exact ⟨rfl, HV2.out⟩

set_option maxHeartbeats 1000000 in
theorem mtext_any {w : World} {g : Nat} {v : Value} {bs : List UInt8} (h : MWrAt w g v bs) (d : ByteArray) (hn : bs.length + d.size ≤ 900000000) :
    Calls Try.prog 50 #[.pointer (some ⟨g, 0, none⟩), .string d] w fun e w' => e = .returned (.tuple #[]) ∧ MWrV w w' g v (bs ++ txtW d) := by
  have HNM := Lib.hid (mnumber_any h 4 d.size (by decide) (by omega) (by omega))
  have HN := Lib.hid hn
  obtain ⟨i0, hi0, hz0, hz1, hz2⟩ := info_parts Try.infoByte
  clear h hn
  go_enter Try.func50, Try.ntmps50
  go_wp2_with fail
  refine (HNM.out).mono ?_
  rintro e w1 ⟨rfl, v1, hN1, hf1, hk1⟩
  obtain ⟨va, vc, rfl⟩ := own_len hN1.2
  obtain ⟨L, hL⟩ : ∃ L, L = (bs ++ layS 4 d.size).length := ⟨_, rfl⟩
  rw [← hL] at hN1 hf1
  have cg : w1.cell? ⟨g, 0, none⟩ = some (.slice va L vc) := Rw.cell hN1.1 rfl
  have fg := Rw.free hN1.1 0
  have HBT : Hid (L + d.size ≤ 140737488355328) := Lib.hid (by rw [hL, List.length_append, layS_len]; have := HN.out; omega)
  have HN1 := Lib.hid hN1
  have HF1 := Lib.hid hf1
  have HK1 := Lib.hid hk1
  have HL := Lib.hid hL
  have HO1 : Hid (w1.ownsRow 0 5 1 (.slice va L vc) L ((bs ++ layS 4 d.size).map byteV)) := Lib.hid (by have := hN1.2; rw [← hL] at this; exact this)
  clear hN1 hf1 hk1 hL
  go_wp2_with (first
    | (refine wpList_append_text rfl (.tmp 12) (.tmp 13) 30 9 rfl 5 i0 Try.underlying30 Try.underlying9 hi0 hz0 hz1 hz2 (.slice va L vc) L _ rfl HO1.out d rfl HBT.out ?_; intro v4 w4 hown4 hgrow hat; obtain ⟨va4, vc4, rfl⟩ := own_len hown4; have hr4 := rw_kept HN1.out.1 (kept_grown (kept_refl _ _) hgrow (fun k hk => .inl hk)) (own_rw HO1.out HN1.out.1 (by decide)); have hc4 := Rw.cell hr4 (j := 0) rfl; have hf4 := Rw.free hr4 0; have HG4 := Lib.hid hgrow; have HO4 := Lib.hid hown4; have HAT := Lib.hid hat; clear hr4 hown4 hgrow hat cg fg)
    | fail)
  go_end0
  refine ⟨rfl, ?_⟩
  have h4 : w4.ownsRow 0 5 1 (.slice va4 (L + d.size) vc4) (bs ++ layS 4 d.size ++ d.data.toList).length ((bs ++ layS 4 d.size ++ d.data.toList).map byteV) := by
    rw [List.length_append, List.map_append, ← HL.out, size_data]
    exact HO4.out
  have h5 := MwrV_then HF1.out HK1.out (Mwr_add0 HN1.out h4 HG4.out HAT.out)
  unfold txtW
  rw [← List.append_assoc]
  exact h5

set_option maxHeartbeats 1000000 in
theorem mlist_any {w : World} {g : Nat} {v : Value} {bs : List UInt8} (h : MWrAt w g v bs) {lv : Value} {l : List Int} (hp : ∀ w', Kept (Foot g v) w w' → IntsAt w' lv l) (h0 : natsB l = true) (hs : smallI l) (hn : bs.length ≤ 900000000) :
    Calls Try.prog 51 #[.pointer (some ⟨g, 0, none⟩), lv] w fun e w' => e = .returned (.tuple #[]) ∧ MWrV w w' g v (bs ++ lstW l) := by
  have hl := (hp w (kept_refl _ _)).1
  obtain ⟨A, C, rfl⟩ := intsAt_len (hp w (kept_refl _ _))
  obtain ⟨n, hnn⟩ : ∃ n, n = l.length := ⟨_, rfl⟩
  rw [← hnn] at hp ⊢
  have HNM := Lib.hid (mnumber_any h 1 n (by decide) (by omega) (by omega))
  have HN := Lib.hid hn
  have HP := Lib.hid hp
  have HNN := Lib.hid hnn
  have HL := Lib.hid hl
  have H0 := Lib.hid h0
  have HS := Lib.hid hs
  clear h hn hp hnn hl h0 hs
  go_enter Try.func51, Try.ntmps51
  go_wp2_with fail
  refine (HNM.out).mono ?_
  rintro e w1 ⟨rfl, v1, hN1, hf1, hk1⟩
  have HNM2 := Lib.hid (mints_any hN1 (fun w' hk => HP.out w' (kept_next hf1 hk1 hk)) H0.out HS.out (by rw [List.length_append, layS_len]; have := HN.out; have := HL.out; omega))
  have HF1 := Lib.hid hf1
  have HK1 := Lib.hid hk1
  clear hN1 hf1 hk1 HNM
  go_wp2_with fail
  refine (HNM2.out).mono ?_
  rintro e w2 ⟨rfl, hv2⟩
  have HE := Lib.hid (MwrV_then HF1.out HK1.out hv2)
  clear hv2
  go_wp2_with fail
  go_end0
  refine ⟨rfl, ?_⟩
  unfold lstW
  rw [← List.append_assoc, ← HNN.out]
  exact HE.out

end Go.Proofs.Ythpljpbiamjmaaa
