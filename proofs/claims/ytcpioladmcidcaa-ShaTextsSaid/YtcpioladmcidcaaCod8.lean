/- Contracts: awake: what the document fixes of two sums. -/
import Derived.Deep.RegionHeld3
import Derived.BigRegion
import Derived.Lib.SlBytesConst
import Derived.Test.YtcpioladmcidcaaProg
import Derived.Test.YtcpioladmcidcaaKit
import Derived.Test.YtcpioladmcidcaaInfo
import Derived.Test.YtcpioladmcidcaaRow
import Derived.Test.YtcpioladmcidcaaSha
import Derived.Test.YtcpioladmcidcaaLit
import Derived.Test.YtcpioladmcidcaaCod2
import Derived.Test.YtcpioladmcidcaaCod5
import Derived.Test.YtcpioladmcidcaaCod6
import Derived.Test.YtcpioladmcidcaaCod7
namespace Go.Proofs.Ytcpioladmcidcaa
open Go.RowKit Go.Proofs

theorem shaV_A : (shaS kL h0S [97, 98, 99]).bytes.map byteV = lit_fA.bytes.map byteV := by rw [shaA]

theorem shaV_E : (shaS kL h0S []).bytes.map byteV = lit_fE.bytes.map byteV := by rw [shaE]

theorem shaV_list (l : List UInt8) : ∃ F : List Value, shaV l = .agg F.toArray ∧ F = (shaS kL h0S l).bytes.map byteV ∧ F.length = 32 ∧ (∀ v ∈ F, v.oneCell' = true) :=
  ⟨_, rfl, rfl, rfl, byteV_one⟩

theorem alloc_cell (w : World) (cs : Array Value) (e : TypeId) (fr : Nat × Nat) (j : Nat) : (w.alloc (.cells cs e fr)).cell? ⟨w.heap.size, j, none⟩ = cs[j]? := cell_of_row _ _ _ cs e fr (heap_alloc_new w _)

theorem byAt_alloc (w : World) (l : List UInt8) (e : TypeId) (fr : Nat × Nat) (cs : Array Value) (h : cs = (l.map byteV).toArray) : ByAt (w.alloc (.cells cs e fr)) w.heap.size 0 l := fun j x hj => by
  rw [Nat.zero_add, alloc_cell, h]
  simp [hj, byteV]

theorem ByAt.more {w : World} {b o : Nat} {l : List UInt8} (h : ByAt w b o l) (x : Obj) : ByAt (w.alloc x) b o l := fun j y hj => by
  have h1 := h j y hj
  rw [World.cell?_alloc_lt w x ⟨b, o + j, none⟩ (block_of_cell h1)]
  exact h1

/-- A literal slice of slices. -/
theorem parts_alloc (w : World) (vs : Array Value) (e : TypeId) (fr : Nat × Nat) (ls : List (List UInt8)) (h : ∀ (j : Nat) (l : List UInt8), ls[j]? = some l → ∃ u, vs[j]? = some u ∧ PartV w w.heap.size u l) (c : Nat) :
    PartsAt (w.alloc (.cells vs e fr)) (w.alloc (.cells vs e fr)).heap.size (.slice (some ⟨w.heap.size, 0, none⟩) ls.length c) ls := by
  refine ⟨_, c, rfl, .inr ⟨w.heap.size, 0, rfl, by simp, fun j l hj => ?_⟩⟩
  obtain ⟨u, hu, a, c2, rfl, hc, hlies⟩ := h j l hj
  rw [Nat.zero_add, alloc_cell]
  refine ⟨_, hu, a, c2, rfl, hc, ?_⟩
  rcases hlies with h0 | ⟨b, o, ha, hb, hby⟩
  · exact .inl h0
  · exact .inr ⟨b, o, ha, by simp; omega, hby.more _⟩

theorem parts_nil (w : World) (B c : Nat) : PartsAt w B (.slice none 0 c) [] := ⟨none, c, rfl, .inl rfl⟩

set_option maxRecDepth 100000 in
set_option maxHeartbeats 1000000 in
theorem awake_any (w : World) :
    Calls Try.prog 9 #[] w fun e w' => e = .returned (.bool true) ∧ Below w.heap.size w w' := by
  obtain ⟨Z, hz, hZ⟩ : ∃ Z, (∀ w, (zeroValue 27).run Try.prog w = .ok (.agg Z) w) ∧ Z = Array.replicate 32 (.int .u8 0) := ⟨_, zero_cells Try.infoHash, rfl⟩
  obtain ⟨F, hFV, hF, hFl, hF1⟩ := shaV_list [97, 98, 99]
  rw [shaV_A] at hF
  have q0 : Hid (F[0]? = some (.int .u8 186) ∧ F[1]? = some (.int .u8 120) ∧ F[2]? = some (.int .u8 22) ∧ F[3]? = some (.int .u8 191)) := Lib.hid (by rw [hF]; exact ⟨by rfl, by rfl, by rfl, by rfl⟩)
  obtain ⟨E, hEV, hE, hEl, hE1⟩ := shaV_list []
  rw [shaV_E] at hE
  have q1 : Hid (E[0]? = some (.int .u8 227) ∧ E[1]? = some (.int .u8 176) ∧ E[2]? = some (.int .u8 196) ∧ E[3]? = some (.int .u8 66)) := Lib.hid (by rw [hE]; exact ⟨by rfl, by rfl, by rfl, by rfl⟩)
  have HIF : Hid ((Try.prog.info? 27).map (·.size) = some F.length) := Lib.hid (by rw [hFl]; exact Try.infoHashn)
  have HIE : Hid ((Try.prog.info? 27).map (·.size) = some E.length) := Lib.hid (by rw [hEl]; exact Try.infoHashn)
  have HZF : Hid (Z.toList.length = F.length) := Lib.hid (by rw [hZ, hFl]; simp)
  have HZE : Hid (Z.toList.length = E.length) := Lib.hid (by rw [hZ, hEl]; simp)
  have HF1 := Lib.hid hF1
  have HE1 := Lib.hid hE1
  have HFV := Lib.hid hFV
  have HEV := Lib.hid hEV
  clear hZ hF hFl hF1 hE hEl hE1 hFV hEV
  have kc : ∀ (W : World) (C : Array Value) (n c g : Nat), g = W.heap.size → (convert 23 23 (.slice (some ⟨g, 0, none⟩) n c)).run Try.prog (W.alloc (.cells C 5)) = .ok (.slice (some ⟨g, 0, none⟩) n c) (W.alloc (.cells C 5 (C.size, C.size + 1))) := fun W C n c g hg => by
    subst hg
    exact Lib.run_convert_bytes_const (P := Try.prog) W 23 5 C n c Try.underlying23 Try.underlying5
  go_enter Try.func9, Try.ntmps9
  go_wp2_with fail
  clear kc
  have hp : PartsAt (((w.alloc (.cells #[.int .u8 97] 5 (1, 2))).alloc (.cells #[.int .u8 98, .int .u8 99] 5 (2, 3))).alloc (.cells #[.slice (some ⟨w.heap.size, 0, none⟩) 1 1, .slice (some ⟨w.heap.size + 1, 0, none⟩) 2 2] 23)) (((w.alloc (.cells #[.int .u8 97] 5 (1, 2))).alloc (.cells #[.int .u8 98, .int .u8 99] 5 (2, 3))).alloc (.cells #[.slice (some ⟨w.heap.size, 0, none⟩) 1 1, .slice (some ⟨w.heap.size + 1, 0, none⟩) 2 2] 23)).heap.size (.slice (some ⟨w.heap.size + 1 + 1, 0, none⟩) 2 2) [[97], [98, 99]] := by
    have h := parts_alloc ((w.alloc (.cells #[.int .u8 97] 5 (1, 2))).alloc (.cells #[.int .u8 98, .int .u8 99] 5 (2, 3))) #[.slice (some ⟨w.heap.size, 0, none⟩) 1 1, .slice (some ⟨w.heap.size + 1, 0, none⟩) 2 2] 23 (0, 0) [[97], [98, 99]] (fun j l hj => by
      match j, hj with
      | 0, hj =>
        cases hj
        exact ⟨_, rfl, _, _, rfl, Nat.le_refl _, .inr ⟨w.heap.size, 0, rfl, by simp; omega, (byAt_alloc w [97] _ _ _ rfl).more _⟩⟩
      | 1, hj =>
        cases hj
        refine ⟨_, rfl, _, _, rfl, Nat.le_refl _, .inr ⟨w.heap.size + 1, 0, rfl, by simp, ?_⟩⟩
        have h2 := byAt_alloc (w.alloc (.cells #[.int .u8 97] 5 (1, 2))) [98, 99] 5 (2, 3) #[.int .u8 98, .int .u8 99] rfl
        simpa using h2) 2
    simpa using h
  generalize hw3 : ((w.alloc (.cells #[.int .u8 97] 5 (1, 2))).alloc (.cells #[.int .u8 98, .int .u8 99] 5 (2, 3))).alloc (.cells #[.slice (some ⟨w.heap.size, 0, none⟩) 1 1, .slice (some ⟨w.heap.size + 1, 0, none⟩) 2 2] 23) = w3 at hp ⊢
  have hb3 : Below w.heap.size w w3 := by rw [← hw3]; exact below_more (below_more (below_more (Below.refl _ _) _) _) _
  have HB3 := Lib.hid hb3
  have HP := Lib.hid hp
  clear hw3 hb3 hp
  refine (sum_any [[97], [98, 99]] _ w3 HP.out (by decide) (by decide)).mono ?_
  rintro e w4 ⟨rfl, hb4⟩
  have HB4 := Lib.hid (HB3.out.trans (hb4.mono HB3.out.size))
  clear hb4
  rw [show ([[97], [98, 99]] : List (List UInt8)).flatten = [97, 98, 99] from rfl, HFV.out]
  have hr4 := Rw.alloc w4 27 Z (base := w.heap.size) HB4.out.size
  have HR4 := Lib.hid hr4
  clear hr4
  go_wp2_with (first | (refine wpList_alloc_z rfl 27 rfl Z hz ?_) | (refine wpList_store_mid rfl 27 _ _ rfl w4.heap.size 0 F.toArray rfl rfl (HR4.out.there 0 _ (by rw [HZF.out]; simp)) (by rw [HIF.out]; simp) (all_oneCell_toArray HF1.out) ?_) | fail)
  obtain ⟨gf, hgf⟩ : ∃ gf, gf = w4.heap.size := ⟨_, rfl⟩
  have hrf := HR4.out.storedAll F HZF.out
  have hb5 : Below w.heap.size w ((w4.alloc (.cells Z 27)).setCells w4.heap.size 0 F) := below_setCells HB4.out.size _ _ _ (below_more HB4.out _)
  rw [← hgf] at hrf hb5
  simp only [← hgf]
  clear hgf
  generalize (w4.alloc (.cells Z 27)).setCells gf 0 F = w5 at hrf hb5 ⊢
  have HRF := Lib.hid hrf
  have HB5 := Lib.hid hb5
  clear hrf hb5 HR4 HP HB3 HB4
  refine (sum_any [] _ w5 (parts_nil _ _ _) (by decide) (by decide)).mono ?_
  rintro e w6 ⟨rfl, hb6⟩
  have HRF6 := Lib.hid (HRF.out.below hb6)
  have HB6 := Lib.hid (HB5.out.trans (hb6.mono HB5.out.size))
  clear hb6 HRF HB5
  rw [show ([] : List (List UInt8)).flatten = [] from rfl, HEV.out]
  obtain ⟨ge, hge⟩ : ∃ ge, ge = w6.heap.size := ⟨_, rfl⟩
  have hr6 := Rw.alloc w6 27 Z (base := w.heap.size) HB6.out.size
  have HR6 := Lib.hid hr6
  have hrE := hr6.storedAll E HZE.out
  have hrF : Rw ((w6.alloc (.cells Z 27)).setCells w6.heap.size 0 E) w.heap.size gf 27 F := Rw.otherAll (HRF6.out.more _) (by have := HRF6.out.size; omega) _ _
  have hb7 : Below w.heap.size w ((w6.alloc (.cells Z 27)).setCells w6.heap.size 0 E) := below_setCells HB6.out.size _ _ _ (below_more HB6.out _)
  rw [← hge] at hrE hrF hb7
  have a0 := hrF.cell q0.out.1
  have a1 := hrF.cell q0.out.2.1
  have a2 := hrF.cell q0.out.2.2.1
  have a3 := hrF.cell q0.out.2.2.2
  have e0 := hrE.cell q1.out.1
  have e1 := hrE.cell q1.out.2.1
  have e2 := hrE.cell q1.out.2.2.1
  have e3 := hrE.cell q1.out.2.2.2
  have HB7 := Lib.hid hb7
  have HGE := Lib.hid hge
  clear hr6 hrE hrF hb7 hge
  go_wp2_with (first | (refine wpList_alloc_z rfl 27 rfl Z hz ?_) | (refine wpList_store_mid rfl 27 _ _ rfl w6.heap.size 0 E.toArray rfl rfl (HR6.out.there 0 _ (by rw [HZE.out]; simp)) (by rw [HIE.out]; simp) (all_oneCell_toArray HE1.out) ?_; simp only [← HGE.out]; generalize (w6.alloc (.cells Z 27)).setCells ge 0 E = w7 at a0 a1 a2 a3 e0 e1 e2 e3 HB7 ⊢))
  go_ret
  exact ⟨rfl, HB7.out⟩

end Go.Proofs.Ytcpioladmcidcaa
