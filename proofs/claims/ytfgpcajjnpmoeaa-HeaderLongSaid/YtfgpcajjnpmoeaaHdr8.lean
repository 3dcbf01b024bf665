/- Contracts: the values of some names, the code's and the reference's. -/
import Derived.Test.YtfgpcajjnpmoeaaShelf
import Derived.BigQuiet
import Derived.Test.YtfgpcajjnpmoeaaProg
import Derived.Test.YtfgpcajjnpmoeaaKit
import Derived.Test.YtfgpcajjnpmoeaaStr
import Derived.Test.YtfgpcajjnpmoeaaRow
import Derived.Test.YtfgpcajjnpmoeaaCod8
import Derived.Test.YtfgpcajjnpmoeaaStp
import Derived.Test.YtfgpcajjnpmoeaaUrl9
import Derived.Test.YtfgpcajjnpmoeaaHdr0
namespace Go.Proofs.Ytfgpcajjnpmoeaa
open Go.RowKit Go.Proofs

theorem drewN_two {w w1 w2 : World} (h : ∃ m, w1 = w.drewN m) (h2 : ∃ m, w2 = w1.drewN m) : ∃ m, w2 = w.drewN m := by
  obtain ⟨m, rfl⟩ := h2
  exact drewN_more h m

def tx (zs : List ByteArray) : List (List UInt8) := zs.map (fun z => z.data.toList)

theorem same1_any (name one : ByteArray) (hn : name.size ≤ 1073741824) (ho : one.size ≤ 1073741824) (gb : Nat) (w : World) (h : w.cell? ⟨gb, 0, none⟩ = some (.string name)) :
    Calls Try.prog 53 #[.string one, .pointer (some ⟨gb, 0, none⟩)] w fun e w' => e = .returned (.bool (sameB name.data.toList one.data.toList)) ∧ ∃ m, w' = w.drewN m := by
  have HS := Lib.hid (fun W => same_any name one hn ho W)
  obtain ⟨q, hq⟩ : ∃ q, q = sameB name.data.toList one.data.toList := ⟨_, rfl⟩
  rw [← hq] at HS ⊢
  clear hq hn ho
  go_enter Try.func53, Try.ntmps53
  go_wp2_with fail
  refine (HS.out _).mono ?_
  rintro e w1 ⟨rfl, hm⟩
  have HM := Lib.hid hm
  clear hm
  go_wp2_with fail
  go_ret
  exact ⟨rfl, HM.out⟩

theorem tx_any {zs : List ByteArray} {p : List UInt8 → Bool} {k : Nat} {z : ByteArray} (h : zs[k]? = some z) : (tx (zs.take (k + 1))).any p = ((tx (zs.take k)).any p || p z.data.toList) := by
  unfold tx
  rw [take_succ_of h, List.map_append, List.any_append]
  simp

theorem tx_hit {zs : List ByteArray} {p : List UInt8 → Bool} {k : Nat} {z : ByteArray} (h : zs[k]? = some z) (hp : p z.data.toList = true) : (tx zs).any p = true := by
  rw [List.any_eq_true]
  exact ⟨_, List.mem_map.2 ⟨z, List.mem_of_getElem? h, rfl⟩, hp⟩

theorem sidx_any (name : ByteArray) (hn : name.size ≤ 1073741824) (zs : List ByteArray) (v : Value) (w : World) (hv : SliceAt w v (zs.map strV)) (hl : zs.length ≤ 1073741824) (hz : ∀ z ∈ zs, z.size ≤ 1073741824) (gb : Nat) (hb : w.cell? ⟨gb, 0, none⟩ = some (.string name)) :
    Calls Try.prog 65 #[v, .func (.func 53) #[] #[.pointer (some ⟨gb, 0, none⟩)]] w fun e w' => (∃ i : Int, e = .returned (.int .i64 i) ∧ decide (0 ≤ i) = sameIn name.data.toList (tx zs)) ∧ ∃ m, w' = w.drewN m := by
  obtain ⟨R, hR⟩ : ∃ R, R = sameIn name.data.toList (tx zs) := ⟨_, rfl⟩
  rw [← hR]
  have HR := Lib.hid hR
  have henter : Enters Try.prog 53 := enters_of Try.func53 (by kernel_rfl) rfl
  by_cases hne : zs = []
  · have HRF : Hid (R = false) := Lib.hid (by rw [HR.out, hne]; rfl)
    subst hne
    obtain ⟨a, c, rfl⟩ := hv.empty
    clear hR hv hl hz hb
    go_enter Try.func65, Try.ntmps65
    go_wp2
    refine wp_loop_rounds 1 ?_
    rw [rounds_succ]
    go_wp2
    go_ret
    exact ⟨⟨-1, rfl, by rw [HRF.out]; rfl⟩, 0, rfl⟩
  · obtain ⟨b, o, c, rfl, hc⟩ := hv.at (by simpa using hne)
    rw [List.length_map]
    have HC := Lib.hid hc
    have HZ := Lib.hid hz
    have HB := Lib.hid hb
    clear hc hv hz hb hR hne
    go_enter Try.func65, Try.ntmps65
    go_wp2_with fail
    go_loopw [8] (fun i wr => ∃ k : Nat, k ≤ zs.length ∧ i = .int .i64 k ∧ Hid ((tx (zs.take k)).any (fun z => sameB name.data.toList z) = false) ∧ Hid (∃ m, wr = w.drewN m)) (fun i _ => zs.length - (intOf i).toNat)
    case atStart => exact ⟨0, Nat.zero_le _, rfl, Lib.hid rfl, Lib.hid ⟨0, rfl⟩⟩
    case round =>
      obtain ⟨k, hk, rfl, HN, HM⟩ := hrel
      have hcell : ∀ p, wr.cell? p = w.cell? p := by obtain ⟨m, rfl⟩ := HM.out; intro p; rfl
      have HCELL := Lib.hid hcell
      obtain ⟨w1, hw1⟩ : ∃ w1 : World, w1 = wr := ⟨_, rfl⟩
      subst hw1
      clear hcell
      by_cases hlt : k < zs.length
      · obtain ⟨z, hzk⟩ : ∃ z, zs[k]? = some z := ⟨_, List.getElem?_eq_getElem hlt⟩
        have hcz : w1.cell? ⟨b, o + k, none⟩ = some (.string z) := (HCELL.out _).trans (HC.out k (.string z) (by rw [List.getElem?_map, hzk]; rfl))
        have hcl := same1_any name z hn (HZ.out z (List.mem_of_getElem? hzk)) gb w1 ((HCELL.out _).trans HB.out)
        obtain ⟨q, hq⟩ : ∃ q, q = sameB name.data.toList z.data.toList := ⟨_, rfl⟩
        rw [← hq] at hcl
        have HCL := Lib.hid hcl
        have HX := Lib.hid (tx_any (p := fun z => sameB name.data.toList z) hzk)
        have HH := Lib.hid (tx_hit (p := fun z => sameB name.data.toList z) hzk)
        have HQ := Lib.hid hq
        have hki : (k : Int) < (zs.length : Int) := by omega
        clear hcl hq hzk
        cases q with
        | true =>
          have HRT : Hid (R = true) := Lib.hid (by rw [HR.out]; exact HH.out HQ.out.symm)
          go_wp2_with (first | (refine wpList_callv rfl (.tmp 11) _ _ rfl 53 #[.pointer (some ⟨gb, 0, none⟩)] rfl #[.string z, .pointer (some ⟨gb, 0, none⟩)] (by simp [go_sem]) henter HCL.out ?_; rintro e w2 ⟨rfl, hm2⟩; have HM2 : Hid (∃ m, w2 = w.drewN m) := Lib.hid (drewN_two HM.out hm2); clear hm2 hcz; refine ⟨_, rfl, ?_⟩) | fail)
          go_ret
          exact ⟨⟨k, rfl, by rw [HRT.out]; exact decide_eq_true (Int.natCast_nonneg _)⟩, HM2.out⟩
        | false =>
          have HN2 : Hid ((tx (zs.take (k + 1))).any (fun z => sameB name.data.toList z) = false) := Lib.hid (by rw [HX.out, HN.out, ← HQ.out]; rfl)
          go_wp2_with (first | (refine wpList_callv rfl (.tmp 11) _ _ rfl 53 #[.pointer (some ⟨gb, 0, none⟩)] rfl #[.string z, .pointer (some ⟨gb, 0, none⟩)] (by simp [go_sem]) henter HCL.out ?_; rintro e w2 ⟨rfl, hm2⟩; have HM2 : Hid (∃ m, w2 = w.drewN m) := Lib.hid (drewN_two HM.out hm2); clear hm2 hcz; refine ⟨_, rfl, ?_⟩) | fail)
          go_roundw
          case rel => exact ⟨k + 1, by omega, by go_num, HN2, HM2⟩
          case measure => simp [intOf]; omega
      · have HRF : Hid (R = false) := Lib.hid (by
          have h := HN.out
          rw [List.take_of_length_le (by omega)] at h
          rw [HR.out]
          exact h)
        go_wp2_with fail
        go_ret
        exact ⟨⟨-1, rfl, by rw [HRF.out]; rfl⟩, HM.out⟩

theorem scontains_any (name : ByteArray) (hn : name.size ≤ 1073741824) (zs : List ByteArray) (v : Value) (w : World) (hv : SliceAt w v (zs.map strV)) (hl : zs.length ≤ 1073741824) (hz : ∀ z ∈ zs, z.size ≤ 1073741824) (gb : Nat) (hb : w.cell? ⟨gb, 0, none⟩ = some (.string name)) :
    Calls Try.prog 52 #[v, .func (.func 53) #[] #[.pointer (some ⟨gb, 0, none⟩)]] w fun e w' => e = .returned (.bool (sameIn name.data.toList (tx zs))) ∧ ∃ m, w' = w.drewN m := by
  have HI := Lib.hid (sidx_any name hn zs v w hv hl hz gb hb)
  obtain ⟨R, hR⟩ : ∃ R, R = sameIn name.data.toList (tx zs) := ⟨_, rfl⟩
  rw [← hR] at HI ⊢
  clear hR hv hl hz hb hn
  go_enter Try.func52, Try.ntmps52
  go_wp2_with fail
  refine HI.out.mono ?_
  rintro e w1 ⟨⟨i, rfl, hi⟩, hm⟩
  have HM := Lib.hid hm
  have HD := Lib.hid hi
  clear hm hi
  go_wp2_with fail
  go_ret
  exact ⟨ret_bool HD.out, HM.out⟩

theorem sameAsOne_any (name : ByteArray) (hn : name.size ≤ 1073741824) (zs : List ByteArray) (v : Value) (w : World) (hv : SliceAt w v (zs.map strV)) (hl : zs.length ≤ 1073741824) (hz : ∀ z ∈ zs, z.size ≤ 1073741824) :
    Calls Try.prog 29 #[.string name, v] w fun e w' => e = .returned (.bool (sameIn name.data.toList (tx zs))) ∧ Below w.heap.size w w' := by
  have HI := Lib.hid (scontains_any name hn zs v (w.alloc (.cells #[.string name] 9)) (SliceAt.below hv (below_more (Below.refl _ _) _)) hl hz w.heap.size (alloc_cell w _ _ _ 0))
  have HB := Lib.hid (below_more (Below.refl w.heap.size w) (.cells #[.string name] 9))
  obtain ⟨R, hR⟩ : ∃ R, R = sameIn name.data.toList (tx zs) := ⟨_, rfl⟩
  rw [← hR] at HI ⊢
  clear hR hv hl hz hn
  go_enter Try.func29, Try.ntmps29
  go_wp2_with fail
  refine HI.out.mono ?_
  rintro e w1 ⟨rfl, hm⟩
  have HM := Lib.hid hm
  clear hm
  go_wp2_with fail
  go_ret
  exact ⟨rfl, below_draws HB.out HM.out⟩

theorem samein_any (name : ByteArray) (hn : name.size ≤ 1073741824) (zs : List ByteArray) (v : Value) (w : World) (hv : SliceAt w v (zs.map strV)) (hl : zs.length ≤ 1073741824) (hz : ∀ z ∈ zs, z.size ≤ 1073741824) :
    Calls Try.prog 30 #[.string name, v] w fun e w' => e = .returned (.bool (sameIn name.data.toList (tx zs))) ∧ Below w.heap.size w w' := by
  obtain ⟨R, hR⟩ : ∃ R, R = sameIn name.data.toList (tx zs) := ⟨_, rfl⟩
  rw [← hR]
  have HR := Lib.hid hR
  by_cases hne : zs = []
  · have HRF : Hid (R = false) := Lib.hid (by rw [HR.out, hne]; rfl)
    subst hne
    obtain ⟨a, c, rfl⟩ := hv.empty
    clear hR hv hl hz
    go_enter Try.func30, Try.ntmps30
    go_wp2
    refine wp_loop_rounds 1 ?_
    rw [rounds_succ]
    go_wp2
    go_ret
    exact ⟨by rw [HRF.out]; rfl, Below.refl _ _⟩
  · obtain ⟨b, o, c, rfl, hc⟩ := hv.at (by simpa using hne)
    rw [List.length_map]
    have HC := Lib.hid hc
    have HZ := Lib.hid hz
    clear hc hv hz hR hne
    go_enter Try.func30, Try.ntmps30
    go_wp2_with fail
    go_loopw [5] (fun i wr => ∃ k : Nat, k ≤ zs.length ∧ i = .int .i64 k ∧ Hid ((tx (zs.take k)).any (fun z => sameB name.data.toList z) = false) ∧ Hid (Below w.heap.size w wr)) (fun i _ => zs.length - (intOf i).toNat)
    case atStart => exact ⟨0, Nat.zero_le _, rfl, Lib.hid rfl, Lib.hid (Below.refl _ _)⟩
    case round =>
      obtain ⟨k, hk, rfl, HN, HB⟩ := hrel
      obtain ⟨w1, hw1⟩ : ∃ w1 : World, w1 = wr := ⟨_, rfl⟩
      subst hw1
      by_cases hlt : k < zs.length
      · obtain ⟨z, hzk⟩ : ∃ z, zs[k]? = some z := ⟨_, List.getElem?_eq_getElem hlt⟩
        have hcz : w1.cell? ⟨b, o + k, none⟩ = some (.string z) := cell_stays (HC.out k (.string z) (by rw [List.getElem?_map, hzk]; rfl)) HB.out
        have hcl := ref_same_any z name (HZ.out z (List.mem_of_getElem? hzk)) hn w1
        rw [sameB_comm] at hcl
        obtain ⟨q, hq⟩ : ∃ q, q = sameB name.data.toList z.data.toList := ⟨_, rfl⟩
        rw [← hq] at hcl
        have HCL := Lib.hid hcl
        have HX := Lib.hid (tx_any (p := fun z => sameB name.data.toList z) hzk)
        have HH := Lib.hid (tx_hit (p := fun z => sameB name.data.toList z) hzk)
        have HQ := Lib.hid hq
        have hki : (k : Int) < (zs.length : Int) := by omega
        clear hcl hq hzk
        go_wp2_with fail
        refine HCL.out.mono ?_
        rintro e w2 ⟨rfl, hb2⟩
        have HB2 := Lib.hid (below_then HB.out hb2)
        clear hb2 hcz
        cases q with
        | true =>
          have HRT : Hid (R = true) := Lib.hid (by rw [HR.out]; exact HH.out HQ.out.symm)
          go_wp2_with fail
          go_ret
          exact ⟨by rw [HRT.out]; rfl, HB2.out⟩
        | false =>
          have HN2 : Hid ((tx (zs.take (k + 1))).any (fun z => sameB name.data.toList z) = false) := Lib.hid (by rw [HX.out, HN.out, ← HQ.out]; rfl)
          go_wp2_with fail
          go_roundw
          case rel => exact ⟨k + 1, by omega, by go_num, HN2, HB2⟩
          case measure => simp [intOf]; omega
      · have HRF : Hid (R = false) := Lib.hid (by
          have h := HN.out
          rw [List.take_of_length_le (by omega)] at h
          rw [HR.out]
          exact h)
        go_wp2_with fail
        go_ret
        exact ⟨by rw [HRF.out]; rfl, HB.out⟩

end Go.Proofs.Ytfgpcajjnpmoeaa
