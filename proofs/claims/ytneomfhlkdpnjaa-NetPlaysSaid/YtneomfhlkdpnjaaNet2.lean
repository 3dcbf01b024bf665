/- Contracts: the code's net: a copy of a packet. -/
import Derived.BigRegion
import Derived.Deep.RegionHeld3
import Derived.Test.YtneomfhlkdpnjaaProg
import Derived.Test.YtneomfhlkdpnjaaKit
import Derived.Test.YtneomfhlkdpnjaaRow
import Derived.Test.YtneomfhlkdpnjaaCod7
import Derived.Test.YtneomfhlkdpnjaaCod9
import Derived.Test.YtneomfhlkdpnjaaFrm6
import Derived.Test.YtneomfhlkdpnjaaFrm12
import Derived.Test.YtneomfhlkdpnjaaNet0
namespace Go.Proofs.Ytneomfhlkdpnjaa
open Go.RowKit Go.Proofs

theorem pk_one (f t : Int) (a : Option Addr) (n c : Nat) : (#[Value.int .i64 f, .int .i64 t, .slice a n c].all (·.oneCell')) = true := by simp [Value.oneCell']

theorem pclone_any (f t : Int) (b : List UInt8) (u : Value) (w : World) (h : ByteSl w w.heap.size u b) (hl : b.length ≤ 140737488355328) :
    Calls Try.prog 79 #[.agg #[.int .i64 f, .int .i64 t, u]] w fun e w' => ∃ u', e = .returned (.agg #[.int .i64 f, .int .i64 t, u']) ∧ w'.ownsRow w.heap.size 5 1 u' b.length (b.map byteV) ∧ Below w.heap.size w w' := by
  have hz := zero_cells Try.infoPkz
  have H := Lib.hid h
  clear h
  go_enter Try.func79, Try.ntmps79
  go_wp2_with (first | (refine wpList_alloc_z rfl 52 rfl #[.int .i64 0, .int .i64 0, .slice none 0 0] hz ?_) | fail)
  have hb1 : Below w.heap.size w ((w.alloc (.cells #[.int .i64 f, .int .i64 t, u] 52)).alloc (.cells #[.int .i64 0, .int .i64 0, .slice none 0 0] 52)) := below_more (below_more (Below.refl _ _) _) _
  have hP : Rw ((w.alloc (.cells #[.int .i64 f, .int .i64 t, u] 52)).alloc (.cells #[.int .i64 0, .int .i64 0, .slice none 0 0] 52)) 0 w.heap.size 52 [.int .i64 f, .int .i64 t, u] := Rw.more (Rw.alloc w _ _ (Nat.zero_le _)) _
  have hR : Rw ((w.alloc (.cells #[.int .i64 f, .int .i64 t, u] 52)).alloc (.cells #[.int .i64 0, .int .i64 0, .slice none 0 0] 52)) 0 (w.heap.size + 1) 52 [.int .i64 0, .int .i64 0, .slice none 0 0] := by
    have := Rw.alloc (w.alloc (.cells #[.int .i64 f, .int .i64 t, u] 52)) 52 #[.int .i64 0, .int .i64 0, .slice none 0 0] (Nat.zero_le _)
    rw [show (w.alloc (.cells #[.int .i64 f, .int .i64 t, u] 52)).heap.size = w.heap.size + 1 by simp] at this
    exact this
  generalize (w.alloc (.cells #[.int .i64 f, .int .i64 t, u] 52)).alloc (.cells #[.int .i64 0, .int .i64 0, .slice none 0 0] 52) = W1 at hb1 hP hR ⊢
  refine (clone_any b u W1 (ByteSl.more3 (ByteSl.keep H.out hb1 (Nat.le_refl _)) hb1.size) hl).mono ?_
  rintro e w2 ⟨u0, rfl, ho, hb2⟩
  obtain ⟨ua, uc, rfl⟩ := own_len ho
  have hP2 := Rw.below hP hb2
  have hR2 := Rw.below hR hb2
  have hb02 := hb1.trans (hb2.mono hb1.size)
  have HO := Lib.hid (own_mono ho hb1.size)
  have HOE := Lib.hid (own_slice ho)
  have HB := Lib.hid hb02
  have c2 : w2.cell? ⟨w.heap.size, 2, none⟩ = some u := Rw.cell hP2 rfl
  have f2 := Rw.free hP2 2
  have HP3 := Lib.hid (Rw.stored hP2 2 (.slice ua b.length uc))
  have hne : w.heap.size ≠ w.heap.size + 1 := by omega
  have HR3 := Lib.hid (Rw.other hR2 hne 2 (.slice ua b.length uc))
  clear hP2 hR2 hb02 ho hP hR hb1 hb2 hne
  have HO3 : Hid ((w2.setCell ⟨w.heap.size, 2, none⟩ (.slice ua b.length uc)).ownsRow w.heap.size 5 1 (.slice ua b.length uc) b.length (b.map byteV)) := by
    refine Lib.hid (own_same HO.out (fun k hk => ?_))
    have hne : k ≠ w.heap.size := by
      rintro rfl
      obtain ⟨cur, hc⟩ := own_blk HO.out hk
      have h3 := HP3.out.2
      simp only [World.setCell, Array.getElem?_modify, hc] at h3
      simp at h3
    simp only [World.setCell, Array.getElem?_modify]
    rw [if_neg (fun e => hne e.symm)]
  have HB3 := Lib.hid (HB.out.setCell (p := ⟨w.heap.size, 2, none⟩) (Nat.le_refl _) (.slice ua b.length uc))
  go_wp2_with (first | (refine wpList_load_mid rfl 52 _ rfl w.heap.size 0 rfl [.int .i64 f, .int .i64 t, (.slice ua b.length uc)] _ (Rw.whole HP3.out) Try.underlying52 rfl Try.infoPk ?_) | (refine wpList_store_mid rfl 52 _ _ rfl (w.heap.size + 1) 0 #[.int .i64 f, .int .i64 t, (.slice ua b.length uc)] rfl rfl (Rw.there HR3.out 0 _ (by simp)) Try.infoPk (pk_one _ _ _ _ _) ?_) | fail)
  have hend := Rw.storedAll HR3.out [.int .i64 f, .int .i64 t, (.slice ua b.length uc)] rfl
  have HB4 := Lib.hid (below_setCells (g := w.heap.size + 1) (Nat.le_succ _) [.int .i64 f, .int .i64 t, (.slice ua b.length uc)] 0 _ HB3.out)
  have HO4 : Hid (((w2.setCell ⟨w.heap.size, 2, none⟩ (.slice ua b.length uc)).setCells (w.heap.size + 1) 0 [.int .i64 f, .int .i64 t, (.slice ua b.length uc)]).ownsRow w.heap.size 5 1 (.slice ua b.length uc) b.length (b.map byteV)) := by
    refine Lib.hid (own_same HO3.out (fun k hk => setCells_heap _ _ _ _ _ ?_))
    rintro rfl
    exact own_rw HO3.out HR3.out (by decide) hk
  refine bodyPost_ret (v := .agg #[.int .i64 f, .int .i64 t, (.slice ua b.length uc)]) ?_ rfl ⟨(.slice ua b.length uc), rfl, HO4.out, HB4.out⟩
  exact results_cell_row rfl _ _ (w.heap.size + 1) _ _ _ _ rfl hend.2 Try.underlying52 rfl Try.infoPk

end Go.Proofs.Ytneomfhlkdpnjaa
