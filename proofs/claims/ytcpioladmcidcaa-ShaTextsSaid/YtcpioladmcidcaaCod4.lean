/- Contracts: the code's hash. -/
import Derived.Deep.RegionHeld3
import Derived.BigRegion
import Derived.Test.YtcpioladmcidcaaProg
import Derived.Test.YtcpioladmcidcaaKit
import Derived.Test.YtcpioladmcidcaaInfo
import Derived.Test.YtcpioladmcidcaaRow
import Derived.Test.YtcpioladmcidcaaU32
import Derived.Test.YtcpioladmcidcaaSha
import Derived.Test.YtcpioladmcidcaaRow2
import Derived.Test.YtcpioladmcidcaaCod3
namespace Go.Proofs.Ytcpioladmcidcaa
open Go.RowKit Go.Proofs

theorem iw_conv (x : UInt32) : iw x % 256 = ((x.toUInt8.toNat : Nat) : Int) := by
  unfold iw
  rw [UInt32.toNat_toUInt8]
  omega

/-- The first 4k bytes are there. -/
def hashUp (s : H8) (k : Nat) : List Value := (s.bytes.take (4 * k) ++ List.replicate (32 - 4 * k) 0).map byteV

theorem hashUp_zero {s : H8} {k : Nat} (hk : k < 8) : (hashUp s k)[4 * k]? = some (.int .u8 0) ∧ (hashUp s k)[4 * k + 1]? = some (.int .u8 0) ∧ (hashUp s k)[4 * k + 2]? = some (.int .u8 0) ∧ (hashUp s k)[4 * k + 3]? = some (.int .u8 0) :=
  lt8 (P := fun k => (hashUp s k)[4 * k]? = some (.int .u8 0) ∧ (hashUp s k)[4 * k + 1]? = some (.int .u8 0) ∧ (hashUp s k)[4 * k + 2]? = some (.int .u8 0) ∧ (hashUp s k)[4 * k + 3]? = some (.int .u8 0)) ⟨rfl, rfl, rfl, rfl⟩ ⟨rfl, rfl, rfl, rfl⟩ ⟨rfl, rfl, rfl, rfl⟩ ⟨rfl, rfl, rfl, rfl⟩ ⟨rfl, rfl, rfl, rfl⟩ ⟨rfl, rfl, rfl, rfl⟩ ⟨rfl, rfl, rfl, rfl⟩ ⟨rfl, rfl, rfl, rfl⟩ hk

theorem hashUp_set {s : H8} {k : Nat} (hk : k < 8) : ((((hashUp s k).set (4 * k) (byteV (s.l.getD k 0 >>> 24).toUInt8)).set (4 * k + 1) (byteV (s.l.getD k 0 >>> 16).toUInt8)).set (4 * k + 2) (byteV (s.l.getD k 0 >>> 8).toUInt8)).set (4 * k + 3) (byteV (s.l.getD k 0).toUInt8) = hashUp s (k + 1) :=
  lt8 (P := fun k => ((((hashUp s k).set (4 * k) (byteV (s.l.getD k 0 >>> 24).toUInt8)).set (4 * k + 1) (byteV (s.l.getD k 0 >>> 16).toUInt8)).set (4 * k + 2) (byteV (s.l.getD k 0 >>> 8).toUInt8)).set (4 * k + 3) (byteV (s.l.getD k 0).toUInt8) = hashUp s (k + 1)) rfl rfl rfl rfl rfl rfl rfl rfl hk

theorem hashUp_all (s : H8) : hashUp s 8 = s.bytes.map byteV := rfl

theorem words_at (s : H8) {k : Nat} (hk : k < 8) : (s.l.map wV).toArray[k]? = some (.int .u32 (iw (s.l.getD k 0))) :=
  lt8 (P := fun k => (s.l.map wV).toArray[k]? = some (.int .u32 (iw (s.l.getD k 0)))) rfl rfl rfl rfl rfl rfl rfl rfl hk

set_option maxRecDepth 100000 in
set_option maxHeartbeats 1000000 in
theorem hash_any (base g : Nat) (s : H8) (n : Int) (b : List UInt8) (w : World) (hr : Rw w base g 47 (digL s n b)) :
    Calls Try.prog 26 #[.pointer (some ⟨g, 0, none⟩)] w fun e w' => e = .returned (.agg (s.bytes.map byteV).toArray) ∧ Below w.heap.size w w' := by
  obtain ⟨Z, hz, hZ⟩ : ∃ Z, (∀ w, (zeroValue 27).run Try.prog w = .ok (.agg Z) w) ∧ Z = Array.replicate 32 (.int .u8 0) := ⟨_, zero_cells Try.infoHash, rfl⟩
  obtain ⟨L, hL⟩ : ∃ L, L = s.l.map wV := ⟨_, rfl⟩
  have HI : Hid ((Try.prog.info? 41).map (·.size) = some L.length) := Lib.hid (by rw [hL]; exact Try.infoW8n)
  have hra : w.rangeAt g 0 L := hr.range 0 L (fun j v hv => by
    rw [Nat.zero_add]
    unfold digL
    rw [← hL, List.getElem?_append_left (List.getElem?_eq_some_iff.1 hv).1]
    exact hv)
  obtain ⟨gh, hgh⟩ : ∃ gh, gh = w.heap.size + 1 := ⟨_, rfl⟩
  have hr0 : Rw ((w.alloc (.cells Z 27)).alloc (.cells Z 27)) w.heap.size w.heap.size 27 Z.toList := Rw.more (Rw.alloc w 27 Z (Nat.le_refl _)) _
  have hr1 : Rw ((w.alloc (.cells Z 27)).alloc (.cells Z 27)) w.heap.size gh 27 (hashUp s 0) := by
    have := Rw.alloc (w.alloc (.cells Z 27)) 27 Z (base := w.heap.size) (by simp)
    rw [hgh]
    rw [hZ] at this ⊢
    simpa [hashUp, byteV] using this
  have hs0 : Below w.heap.size w ((w.alloc (.cells Z 27)).alloc (.cells Z 27)) := below_more (below_more (Below.refl w.heap.size w) _) _
  have HRA : Hid (((w.alloc (.cells Z 27)).alloc (.cells Z 27)).rangeAt g 0 L) := Lib.hid (fun j v hv => by
    have h1 := hra j v hv
    rw [hs0.cell (block_of_cell h1)]
    exact h1)
  have HZ := Lib.hid hZ
  have HL := Lib.hid hL
  clear hZ hL hra hr
  go_enter Try.func26, Try.ntmps26
  go_wp2_with (first | (refine wpList_alloc_z rfl 27 rfl Z hz ?_) | (refine wpList_load_mid rfl 41 _ rfl g 0 rfl L _ HRA.out Try.underlying41 rfl HI.out ?_))
  simp only [← hgh]
  generalize (w.alloc (.cells Z 27)).alloc (.cells Z 27) = w0 at hr0 hr1 hs0 ⊢
  have HR0 := Lib.hid hr0
  have HR1 := Lib.hid hr1
  have HS0 := Lib.hid hs0
  have HGH : Hid (gh = w.heap.size + 1) := Lib.hid hgh
  have hu : (Try.prog.info? 40).map (·.size) = some 1 := (zero_of_info3 Try.infoU32)
  clear hr0 hr1 hs0 hgh HRA HI hz
  go_loopw [10] (fun i wr => ∃ k : Nat, k ≤ 8 ∧ i = .int .i64 k ∧ Hid (Rw wr w.heap.size gh 27 (hashUp s k)) ∧ Hid (Rw wr w.heap.size w.heap.size 27 Z.toList) ∧ Hid (Below w.heap.size w wr)) (fun i _ => 8 - (intOf i).toNat)
  case atStart => exact ⟨0, by omega, rfl, HR1, HR0, HS0⟩
  case round =>
    clear HR1 HR0 HS0
    obtain ⟨k, hk, rfl, HR, HR0, HS⟩ := hrel
    obtain ⟨w1, hw1⟩ : ∃ w1 : World, w1 = wr := ⟨_, rfl⟩
    subst hw1
    by_cases hlt : k < 8
    · obtain ⟨z0, z1, z2, z3⟩ := hashUp_zero (s := s) hlt
      have c0 := HR.out.cell z0
      have c1 := HR.out.cell z1
      have c2 := HR.out.cell z2
      have c3 := HR.out.cell z3
      have f0 := HR.out.free (4 * k)
      have f1 := HR.out.free (4 * k + 1)
      have f2 := HR.out.free (4 * k + 2)
      have f3 := HR.out.free (4 * k + 3)
      have HFIN := Lib.hid (hashUp_set (s := s) hlt)
      have hrow := words_at s hlt
      rw [← HL.out] at hrow
      obtain ⟨x, hx⟩ : ∃ x, x = s.l.getD k 0 := ⟨_, rfl⟩
      rw [← hx] at hrow HFIN
      have HROW := Lib.hid hrow
      have HKL := Lib.hid hlt
      have B0 : Hid (Value.int .u8 (iw x / 16777216 % 256) = byteV (x >>> 24).toUInt8) := Lib.hid (by rw [show iw x / (16777216 : Int) = iw (x >>> 24) from iw_shr x 24 (by decide), iw_conv]; rfl)
      have B1 : Hid (Value.int .u8 (iw x / 65536 % 256) = byteV (x >>> 16).toUInt8) := Lib.hid (by rw [show iw x / (65536 : Int) = iw (x >>> 16) from iw_shr x 16 (by decide), iw_conv]; rfl)
      have B2 : Hid (Value.int .u8 (iw x / 256 % 256) = byteV (x >>> 8).toUInt8) := Lib.hid (by rw [show iw x / (256 : Int) = iw (x >>> 8) from iw_shr x 8 (by decide), iw_conv]; rfl)
      have B3 : Hid (Value.int .u8 (iw x % 256) = byteV x.toUInt8) := Lib.hid (by rw [iw_conv]; rfl)
      have y0 : 4 * (k : Int) < 32 := by omega
      have y1 : 4 * (k : Int) + 1 < 32 := by omega
      have y2 : 4 * (k : Int) + 2 < 32 := by omega
      have y3 : 4 * (k : Int) + 3 < 32 := by omega
      have y4 : (k : Int) < 8 := by omega
      clear z0 z1 z2 z3 hx hrow hk
      go_wp2_with (refine wpList_index_row (ki := .i64) rfl 41 _ _ rfl (.int .u32 (iw x)) Try.underlying41 Try.underlying40 hu rfl rfl hlt HROW.out ?_)
      go_roundw
      case rel =>
        have hk := HKL.out
        have hgh := HGH.out
        refine ⟨k + 1, by omega, by go_num, Lib.hid ?_, Lib.hid ?_, Lib.hid ?_⟩
        · rw [B0.out, B1.out, B2.out, B3.out, ← HFIN.out]
          exact (((HR.out.stored _ _).stored _ _).stored _ _).stored _ _
        · exact (((HR0.out.other (by omega) _ _).other (by omega) _ _).other (by omega) _ _).other (by omega) _ _
        · exact (((HS.out.setCell (by show _ ≤ gh; omega) _).setCell (by show _ ≤ gh; omega) _).setCell (by show _ ≤ gh; omega) _).setCell (by show _ ≤ gh; omega) _
      case measure => have hk := HKL.out; simp [intOf]; omega
    · have h8 : k = 8 := by omega
      have hr := HR.out
      rw [h8, hashUp_all] at hr
      obtain ⟨F, hF⟩ : ∃ F, F = s.bytes.map byteV := ⟨_, rfl⟩
      rw [← hF] at hr
      have hFl : F.length = 32 := by rw [hF]; rfl
      have h1c : ∀ v ∈ F, v.oneCell' = true := by rw [hF]; intro v hv; obtain ⟨x, _, rfl⟩ := List.mem_map.1 hv; rfl
      have HRF := Lib.hid hr
      have HFE := Lib.hid hF
      have HZL : Hid (Z.toList.length = F.length) := Lib.hid (by rw [HZ.out, hFl]; simp)
      have HI : Hid ((Try.prog.info? 27).map (·.size) = some F.length) := Lib.hid (by rw [hFl]; exact Try.infoHashn)
      have HC := Lib.hid h1c
      have hn8 : ¬ ((k : Int) < 8) := by omega
      clear h8 hr hF hFl h1c hlt hk HR
      go_wp2_with (first | (refine wpList_load_mid rfl 27 _ rfl gh 0 rfl F _ HRF.out.whole Try.underlying27 rfl HI.out ?_) | (refine wpList_store_mid rfl 27 _ _ rfl w.heap.size 0 F.toArray rfl rfl (HR0.out.there 0 _ (by rw [HZL.out]; simp)) (by rw [HI.out]; simp) (all_oneCell_toArray HC.out) ?_))
      have hend := HR0.out.storedAll F HZL.out
      refine bodyPost_ret (v := .agg F.toArray) ?_ rfl ⟨by rw [HFE.out], below_setCells (Nat.le_refl _) _ _ _ HS.out⟩
      exact results_cell_row rfl _ _ w.heap.size _ _ _ _ rfl hend.2 Try.underlying27 rfl (by rw [HI.out]; simp)

end Go.Proofs.Ytcpioladmcidcaa
