/- Contracts: the code's Sum of parts, and New. -/
import Derived.Deep.RegionHeld3
import Derived.Deep.RegionLaw
import Derived.BigRegion
import Derived.Test.YtcpioladmcidcaaProg
import Derived.Test.YtcpioladmcidcaaKit
import Derived.Test.YtcpioladmcidcaaInfo
import Derived.Test.YtcpioladmcidcaaRow
import Derived.Test.YtcpioladmcidcaaSha
import Derived.Test.YtcpioladmcidcaaLit
import Derived.Test.YtcpioladmcidcaaCod2
import Derived.Test.YtcpioladmcidcaaCod5
import Derived.Test.YtcpioladmcidcaaCod6
namespace Go.Proofs.Ytcpioladmcidcaa
open Go.RowKit Go.Proofs

/-- Bytes that lie below block B. -/
def Lies (w : World) (B : Nat) (a : Option Addr) (m : List UInt8) : Prop := m = [] ∨ ∃ b o, a = some ⟨b, o, none⟩ ∧ b < B ∧ ByAt w b o m

theorem Lies.out {w : World} {B g : Nat} {a : Option Addr} {m : List UInt8} (h : Lies w B a m) (hg : B ≤ g) : Out w g a m := by
  rcases h with h | ⟨b, o, ha, hb, h⟩
  · exact .inl h
  · exact .inr ⟨b, o, ha, by omega, h⟩

theorem ByAt.keep {w w' : World} {b o B : Nat} {m : List UInt8} (h : ByAt w b o m) (hb : Below B w w') (hB : b < B) : ByAt w' b o m := fun j x hj => by
  rw [hb.cell (p := ⟨b, o + j, none⟩) hB]
  exact h j x hj

theorem Lies.keep {w w' : World} {B B' : Nat} {a : Option Addr} {m : List UInt8} (h : Lies w B a m) (hb : Below B' w w') (hB : B ≤ B') : Lies w' B a m := by
  rcases h with h | ⟨b, o, ha, hlt, h⟩
  · exact .inl h
  · exact .inr ⟨b, o, ha, hlt, h.keep hb (by omega)⟩

theorem Lies.more {w : World} {B B' : Nat} {a : Option Addr} {m : List UInt8} (h : Lies w B a m) (hB : B ≤ B') : Lies w B' a m := by
  rcases h with h | ⟨b, o, ha, hlt, h⟩
  · exact .inl h
  · exact .inr ⟨b, o, ha, by omega, h⟩

/-- One slice of bytes as a cell's value. -/
def PartV (w : World) (B : Nat) (v : Value) (m : List UInt8) : Prop := ∃ a c, v = .slice a m.length c ∧ m.length ≤ c ∧ Lies w B a m

/-- A slice of slices of bytes. -/
def PartsAt (w : World) (B : Nat) (v : Value) (ls : List (List UInt8)) : Prop :=
  ∃ A C, v = .slice A ls.length C ∧ (ls = [] ∨ ∃ b o, A = some ⟨b, o, none⟩ ∧ b < B ∧ ∀ j l, ls[j]? = some l → ∃ u, w.cell? ⟨b, o + j, none⟩ = some u ∧ PartV w B u l)

theorem PartV.later {w w' : World} {B B' : Nat} {v : Value} {m : List UInt8} (h : PartV w B v m) (hb : Below B w w') (hB : B ≤ B') : PartV w' B' v m := by
  obtain ⟨a, c, hv, hc, hl⟩ := h
  exact ⟨a, c, hv, hc, (hl.keep hb (Nat.le_refl _)).more hB⟩

theorem PartsAt.later {w w' : World} {v : Value} {ls : List (List UInt8)} (h : PartsAt w w.heap.size v ls) (hb : Below w.heap.size w w') : PartsAt w' w'.heap.size v ls := by
  obtain ⟨A, C, hv, h⟩ := h
  refine ⟨A, C, hv, ?_⟩
  rcases h with h | ⟨b, o, ha, hlt, h⟩
  · exact .inl h
  · refine .inr ⟨b, o, ha, Nat.lt_of_lt_of_le hlt hb.size, fun j l hj => ?_⟩
    obtain ⟨u, hu, hp⟩ := h j l hj
    exact ⟨u, by rw [hb.cell (p := ⟨b, o + j, none⟩) hlt]; exact hu, hp.later hb hb.size⟩

theorem flat_succ {ls : List (List UInt8)} {k : Nat} {m : List UInt8} (h : ls[k]? = some m) : (ls.take (k + 1)).flatten = (ls.take k).flatten ++ m := by
  rw [take_succ_of h]
  simp

theorem flat_le {ls : List (List UInt8)} {k : Nat} {m : List UInt8} (h : ls[k]? = some m) : (ls.take k).flatten.length + m.length ≤ ls.flatten.length := by
  have h1 := flat_succ h
  have h2 : ls.flatten = (ls.take (k + 1)).flatten ++ (ls.drop (k + 1)).flatten := by rw [← List.flatten_append, List.take_append_drop]
  rw [h2, h1]
  simp

set_option maxRecDepth 100000 in
theorem new_any (w : World) : Calls Try.prog 16 #[] w fun e w' => e = .returned (.pointer (some ⟨w.heap.size, 0, none⟩)) ∧ DigAt w' w.heap.size w.heap.size [] ∧ Below w.heap.size w w' := by
  obtain ⟨D, hD, hDD⟩ : ∃ D, (∀ w, (zeroValue 47).run Try.prog w = .ok (.agg D) w) ∧ D = Array.replicate 8 (.int .u32 0) ++ #[.int .u64 0] ++ Array.replicate 64 (.int .u8 0) := ⟨_, zero_cells Try.infoDig, rfl⟩
  have hr := Rw.alloc w 47 D (base := w.heap.size) (Nat.le_refl _)
  have HD := Lib.hid (digAt_zero hDD hr)
  clear hDD hr
  go_enter Try.func16, Try.ntmps16
  go_wp2_with (refine wpList_alloc_z rfl 47 rfl D hD ?_)
  go_ret
  exact ⟨rfl, HD.out, below_more (Below.refl _ _) _⟩

set_option maxRecDepth 100000 in
set_option maxHeartbeats 1000000 in
theorem sum_any (ls : List (List UInt8)) (v : Value) (w : World) (hp : PartsAt w w.heap.size v ls) (hl : ls.flatten.length < 4294967296) (hn : ls.length < 9223372036854775807) :
    Calls Try.prog 10 #[v] w fun e w' => e = .returned (shaV ls.flatten) ∧ Below w.heap.size w w' := by
  obtain ⟨Z, hz, hZ⟩ : ∃ Z, (∀ w, (zeroValue 27).run Try.prog w = .ok (.agg Z) w) ∧ Z = Array.replicate 32 (.int .u8 0) := ⟨_, zero_cells Try.infoHash, rfl⟩
  obtain ⟨D, hD, hDD⟩ : ∃ D, (∀ w, (zeroValue 47).run Try.prog w = .ok (.agg D) w) ∧ D = Array.replicate 8 (.int .u32 0) ++ #[.int .u64 0] ++ Array.replicate 64 (.int .u8 0) := ⟨_, zero_cells Try.infoDig, rfl⟩
  obtain ⟨A, C, rfl, hp⟩ := hp
  obtain ⟨n, hnn⟩ : ∃ n, n = ls.length := ⟨_, rfl⟩
  rw [← hnn] at hn ⊢
  obtain ⟨w0, hw0⟩ : ∃ w0, w0 = (w.alloc (.cells Z 27)).alloc (.cells D 47) := ⟨_, rfl⟩
  obtain ⟨gd, hgd⟩ : ∃ gd, gd = w.heap.size + 1 := ⟨_, rfl⟩
  have hb0 : Below w.heap.size w w0 := by rw [hw0]; exact below_more (below_more (Below.refl w.heap.size w) _) _
  have hr0 : Rw w0 w.heap.size w.heap.size 27 Z.toList := by rw [hw0]; exact Rw.more (Rw.alloc w 27 Z (Nat.le_refl _)) _
  have hr1 : Rw w0 w.heap.size gd 47 D.toList := by
    have h := Rw.alloc (w.alloc (.cells Z 27)) 47 D (base := w.heap.size) (by simp)
    rw [hw0, hgd]
    simpa using h
  have HD0 := Lib.hid (digAt_zero hDD hr1)
  have HR0 := Lib.hid hr0
  have HB0 := Lib.hid hb0
  have HW0 := Lib.hid hw0
  have HGD := Lib.hid hgd
  have HZ := Lib.hid hZ
  have HP := Lib.hid hp
  have HNN := Lib.hid hnn
  have HLL := Lib.hid hl
  have HIH : Hid ((Try.prog.info? 27).map (·.size) = some 32) := Lib.hid Try.infoHashn
  clear hZ hDD hw0 hgd hb0 hr0 hr1 hp hnn hl
  go_enter Try.func10, Try.ntmps10
  go_wp2_with (first | (refine wpList_alloc_z rfl 27 rfl Z hz ?_) | (refine wpList_alloc_z rfl 47 rfl D hD ?_))
  rw [← HW0.out]
  simp only [← HGD.out]
  go_loopw [8] (fun i wr => ∃ k : Nat, k ≤ n ∧ i = .int .i64 k ∧ Hid (DigAt wr w.heap.size gd (ls.take k).flatten) ∧ Hid (Rw wr w.heap.size w.heap.size 27 Z.toList) ∧ Hid (Below w.heap.size w wr)) (fun i _ => n - (intOf i).toNat)
  case atStart => exact ⟨0, by omega, rfl, HD0, HR0, HB0⟩
  case round =>
    clear HD0 HR0 HB0
    obtain ⟨k, hk, rfl, HDW, HR, HB⟩ := hrel
    obtain ⟨w1, hw1⟩ : ∃ w1 : World, w1 = wr := ⟨_, rfl⟩
    subst hw1
    by_cases hlt : k < n
    · obtain ⟨m, hm⟩ : ∃ m, ls[k]? = some m := ⟨_, List.getElem?_eq_getElem (by rw [← HNN.out]; exact hlt)⟩
      have hne : ls ≠ [] := by intro e; have := HNN.out; rw [e] at this; simp at this; omega
      obtain ⟨b, o, rfl, hbw, hcells⟩ := HP.out.resolve_left hne
      obtain ⟨u, hu, a, c, rfl, hmc, hlies⟩ := hcells k m hm
      have hcell : w1.cell? ⟨b, o + k, none⟩ = some (.slice a m.length c) := (HB.out.cell (p := ⟨b, o + k, none⟩) hbw).trans hu
      have hle := flat_le hm
      have hfl := HLL.out
      have hwr := write_any w.heap.size gd (ls.take k).flatten m a c w1 HDW.out ((hlies.keep HB.out (Nat.le_refl _)).out (by rw [HGD.out]; omega)) hmc (by omega)
      rw [← flat_succ hm] at hwr
      have HWR := Lib.hid hwr
      have HKL := Lib.hid hlt
      have hy : (k : Int) < (n : Int) := by omega
      clear hm hne hcells hu hmc hlies hle hfl hwr hk
      go_wp2_with fail
      refine (HWR.out).mono ?_
      rintro e w2 ⟨rfl, hd2, hs2⟩
      have HD2 := Lib.hid hd2
      have HS2 := Lib.hid hs2
      clear hd2 hs2
      go_wp2_with fail
      go_roundw
      case rel =>
        have hk := HKL.out
        exact ⟨k + 1, by omega, by go_num, HD2, Lib.hid (HR.out.save HS2.out HR.out.size (by rw [HGD.out]; omega)), Lib.hid (HS2.out.below HB.out (by rw [HGD.out]; omega) HB.out.size)⟩
      case measure => have hk := HKL.out; simp [intOf]; omega
    · have hkn : k = ls.length := by have := HNN.out; omega
      have hd := HDW.out
      rw [hkn, List.take_length] at hd
      have HD1 := Lib.hid hd
      clear hkn hd hk HDW
      go_wp2_with fail
      refine (dsum_any w.heap.size gd ls.flatten w1 HD1.out HLL.out).mono ?_
      rintro e w4 ⟨rfl, hb4⟩
      obtain ⟨F, hF⟩ : ∃ F, F = (shaS kL h0S ls.flatten).bytes.map byteV := ⟨_, rfl⟩
      have hFV : shaV ls.flatten = .agg F.toArray := by rw [hF]; rfl
      rw [hFV]
      have hFl : F.length = 32 := by rw [hF]; rfl
      have h1f : ∀ v ∈ F, v.oneCell' = true := by rw [hF]; exact byteV_one
      have hb34 : Below w.heap.size w w4 := below_then HB.out hb4
      have hr4 : Rw w4 w.heap.size w.heap.size 27 Z.toList := HR.out.below hb4
      have HFV := Lib.hid hFV
      have HR4 := Lib.hid hr4
      have HB4 := Lib.hid hb34
      have HC2 := Lib.hid h1f
      have HIF : Hid ((Try.prog.info? 27).map (·.size) = some F.length) := Lib.hid (by rw [hFl]; exact HIH.out)
      have HZL : Hid (Z.toList.length = F.length) := Lib.hid (by rw [HZ.out, hFl]; simp)
      clear hF hFV hFl h1f hb34 hr4 hb4
      go_wp2_with (refine wpList_store_mid rfl 27 _ _ rfl w.heap.size 0 F.toArray rfl rfl (HR4.out.there 0 _ (by rw [HZL.out]; simp)) (by rw [HIF.out]; simp) (all_oneCell_toArray HC2.out) ?_)
      have hend := HR4.out.storedAll F HZL.out
      refine bodyPost_ret (v := .agg F.toArray) ?_ rfl ⟨by rw [HFV.out], below_setCells (Nat.le_refl _) _ _ _ HB4.out⟩
      exact results_cell_row rfl _ _ w.heap.size _ _ _ _ rfl hend.2 Try.underlying27 rfl (by rw [HIF.out]; simp)

end Go.Proofs.Ytcpioladmcidcaa
