/- Contracts: slices.Delete of one packet. -/
import Derived.BigRegion
import Derived.Deep.RegionHeld3
import Derived.Deep.RegionLaw
import Derived.Test.YtneomfhlkdpnjaaProg
import Derived.Test.YtneomfhlkdpnjaaKit
import Derived.Test.YtneomfhlkdpnjaaRow
import Derived.Test.YtneomfhlkdpnjaaSha
import Derived.Test.YtneomfhlkdpnjaaRow2
import Derived.Test.YtneomfhlkdpnjaaCod7
import Derived.Test.YtneomfhlkdpnjaaFp
import Derived.Test.YtneomfhlkdpnjaaDsk6
import Derived.Test.YtneomfhlkdpnjaaDsk7
import Derived.Test.YtneomfhlkdpnjaaNet0
import Derived.Test.YtneomfhlkdpnjaaNet8
namespace Go.Proofs.Ytneomfhlkdpnjaa
open Go.RowKit Go.Proofs

theorem pk_size (W : World) : (sizeOf (Try.prog.elem 43)).run Try.prog W = .ok 3 W := by
  have hel : Try.prog.elem 43 = 52 := by kernel_rfl
  have hsz : (sizeOf 52).run Try.prog W = .ok 3 W := by kernel_rfl
  rw [hel, hsz]

theorem sl_lhm (W : World) (gr n c l h m : Nat) (h1 : l ≤ h) (h2 : h ≤ m) (h3 : m ≤ c) (hne : m ≠ l) :
    (Instr.slice 43 (.slice (some ⟨gr, 0, none⟩) n c) (some (.int .i64 (l : Int))) (some (.int .i64 (h : Int))) (some (.int .i64 (m : Int)))).run Try.prog W = .ok (.slice (some ⟨gr, l * 3, none⟩) (h - l) (m - l)) W := by
  rw [run_slice_lhm W 43 (some ⟨gr, 0, none⟩) n c (by kernel_rfl) .i64 .i64 .i64 l h m (by omega) (by omega) (by omega) (by omega), pk_size]
  simp [Result.andThen, sliced, Addr.add_mid, hne]

theorem sl_h (W : World) (gr n c h : Nat) (h1 : h ≤ c) :
    (Instr.slice 43 (.slice (some ⟨gr, 0, none⟩) n c) none (some (.int .i64 (h : Int))) none).run Try.prog W = .ok (.slice (some ⟨gr, 0, none⟩) h c) W := by
  rw [run_slice_h W 43 (some ⟨gr, 0, none⟩) n c (by kernel_rfl) .i64 h (by omega) (by omega), pk_size]
  simp [Result.andThen, sliced, Addr.add_mid]

theorem sl_l (W : World) (gr n c l : Nat) (h1 : l ≤ n) :
    (Instr.slice 43 (.slice (some ⟨gr, 0, none⟩) n c) (some (.int .i64 (l : Int))) none none).run Try.prog W = .ok (.slice (if c = l then some ⟨gr, 0, none⟩ else some ⟨gr, l * 3, none⟩) (n - l) (c - l)) W := by
  rw [run_slice_l W 43 (some ⟨gr, 0, none⟩) n c (by kernel_rfl) .i64 l (by omega) (by omega), pk_size]
  simp [Result.andThen, sliced, Addr.add_mid]

theorem sl_lh (W : World) (gr n c l h : Nat) (h1 : l ≤ h) (h2 : h ≤ c) (hne : c ≠ l) :
    (Instr.slice 43 (.slice (some ⟨gr, 0, none⟩) n c) (some (.int .i64 (l : Int))) (some (.int .i64 (h : Int))) none).run Try.prog W = .ok (.slice (some ⟨gr, l * 3, none⟩) (h - l) (c - l)) W := by
  rw [run_slice_lh W 43 (some ⟨gr, 0, none⟩) n c (by kernel_rfl) .i64 .i64 l h (by omega) (by omega) (by omega), pk_size]
  simp [Result.andThen, sliced, Addr.add_mid, hne]

/-- What is taken out of a row of packets. -/
def TookV (w w' : World) (v : Value) (rs' : List RecP) (e : Ending) : Prop := ∃ v', e = .returned v' ∧ OwnP w' v' rs' ∧ v'.ownBlock = v.ownBlock ∧ Kept (fun k => v.ownBlock = some k) w w'

theorem took_end {w : World} {gr c n k : Nat} {L zs : List Value} {rs : List RecP} (hr : Rw w 0 gr 52 L) (hl : L.length = c * 3) (hm : c ≤ maxLen) (hnc : rs.length ≤ c) (ht : L.take (rs.length * 3) = rowsP rs) (hk : k < rs.length) (hn : n + 1 = rs.length) (hz : zs.length = 3) {W : World} (hW : Kept (fun _ => False) w W) :
    OwnP ((W.setCells gr (k * 3) (rowsP (rs.drop (k + 1)))).setCells gr (n * 3) zs) (.slice (some ⟨gr, 0, none⟩) n c) (rs.eraseIdx k) ∧ Kept (fun j => some gr = some j) w ((W.setCells gr (k * 3) (rowsP (rs.drop (k + 1)))).setCells gr (n * 3) zs) := by
  have hd : (rowsP (rs.drop (k + 1))).length = (rs.length - (k + 1)) * 3 := by rw [rowsP_len, List.length_drop]
  have hr1 := rw_mid (rw_kept hr hW (fun h => h)) (k * 3) (rowsP (rs.drop (k + 1))) (by rw [hd, hl]; omega)
  have hl1 : (L.take (k * 3) ++ (rowsP (rs.drop (k + 1)) ++ L.drop (k * 3 + (rowsP (rs.drop (k + 1))).length))).length = c * 3 := by
    rw [List.length_append, List.length_append, List.length_take, List.length_drop, hd]
    omega
  have hr2 := rw_mid hr1 (n * 3) zs (by rw [hl1, hz]; omega)
  refine ⟨own_of_blk hr2 (by simp only [List.length_append, List.length_take, List.length_drop, hl1, hz]; omega) hm (by rw [List.length_eraseIdx, if_pos hk]; omega) (by omega) ?_, ?_⟩
  · rw [List.take_append_of_le_length (by rw [List.length_take, hl1]; omega), List.take_of_length_le (by rw [List.length_take]; omega), erase_rows, ← List.append_assoc, List.take_append_of_le_length (by rw [List.length_append, List.length_take, hd, hl]; omega),
      List.take_of_length_le (by rw [List.length_append, List.length_take, hd, hl]; omega), ← ht, rowsP_drop, ht]
    congr 1
    rw [← ht, List.take_take]
    congr 1
    omega
  · exact kept_setCells (F := fun j => some gr = some j) (kept_setCells (F := fun j => some gr = some j) (kept_mono hW (fun _ h => h.elim)) (.inl rfl) _ _) (.inl rfl) _ _

set_option maxRecDepth 100000 in
set_option maxHeartbeats 4000000 in
theorem delete_any {w : World} {v : Value} {rs : List RecP} (h : OwnP w v rs) {k j : Nat} (hk : k < rs.length) (hj : j = k + 1) (hone : ∀ r ∈ rs, r.u.oneCell' = true) :
    Calls Try.prog 80 #[v, .int .i64 k, .int .i64 j] w fun e w' => TookV w w' v (rs.eraseIdx k) e := by
  obtain ⟨gr, c, L, rfl, hc, hm, hr, hl, ht⟩ := ownP_blk h (by intro e; rw [e] at hk; simp at hk)
  obtain ⟨n, hn⟩ : ∃ n, n = rs.length := ⟨_, rfl⟩
  obtain ⟨m, hmm⟩ : ∃ m, m = n - j := ⟨_, rfl⟩
  obtain ⟨n1, hn1⟩ : ∃ n1, n1 = k + m := ⟨_, rfl⟩
  have hs1 := fun W => sl_lhm W gr n c k j n (by omega) (by omega) (by omega) (by omega)
  have hs2 := fun W => sl_h W gr n c k (by omega)
  have hs3 := fun W => sl_l W gr n c j (by omega)
  have hs4 := fun W => sl_lh W gr n1 c n1 n (by omega) (by omega) (by omega)
  rw [← hmm] at hs3
  rw [show n - n1 = 1 by omega] at hs4
  rw [show j - k = 1 by omega] at hs1
  have HEND := Lib.hid (fun (zs : List Value) (hz : zs.length = 3) (W : World) (hW : Kept (fun _ => False) w W) => took_end (n := n1) hr hl hm hc ht hk (by omega) hz hW)
  have hnl : (rowsP (rs.drop (k + 1))).length = m * 3 := by rw [rowsP_len, List.length_drop]; omega
  have h1n : ∀ x ∈ rowsP (rs.drop (k + 1)), x.oneCell' = true := rowsP_one_cell (fun r hr => hone r (List.mem_of_mem_drop hr))
  obtain ⟨ad, had⟩ : ∃ ad, (if c = j then some (⟨gr, 0, none⟩ : Addr) else some ⟨gr, j * 3, none⟩) = some ad := by split <;> exact ⟨_, rfl⟩
  rw [had] at hs3
  have hsrc : ∀ (W : World), Kept (fun _ => False) w W → ∀ i u, (rowsP (rs.drop (k + 1)))[i]? = some u → W.cell? (ad.add i) = some u := fun W hW i u hi => by
    have hil := (List.getElem?_eq_some_iff.1 hi).1
    rw [hnl] at hil
    rw [if_neg (by omega)] at had
    cases had
    rw [Addr.add_mid]
    refine Rw.cell (rw_kept hr hW (fun h => h)) ?_
    have h2 : (rowsP rs)[j * 3 + i]? = some u := by
      rw [rowsP_drop, List.getElem?_drop] at hi
      rw [hj]
      exact hi
    rw [← ht, List.getElem?_take] at h2
    split at h2
    · exact h2
    · cases h2
  have hroom : ∀ (W : World), Kept (fun _ => False) w W → ∀ i, i < (rowsP (rs.drop (k + 1))).length → (W.cell? ⟨gr, 0 + k * 3 + i, none⟩).isSome = true ∧ W.frozen? ⟨gr, 0 + k * 3 + i, none⟩ = false := fun W hW i hi => by
    rw [Nat.zero_add]
    exact Rw.there (rw_kept hr hW (fun h => h)) (k * 3) (m * 3) (by rw [hl]; omega) i (by rw [← hnl]; exact hi)
  have hthere : ∀ (W : World), Kept (fun _ => False) w W → (W.setCells gr (k * 3) (rowsP (rs.drop (k + 1)))).there gr (n1 * 3) (1 * 3) := fun W hW => by
    refine Rw.there (rw_mid (rw_kept hr hW (fun h => h)) (k * 3) _ (by rw [hnl, hl]; omega)) (n1 * 3) (1 * 3) ?_
    simp only [List.length_append, List.length_take, List.length_drop, hl, hnl]
    omega
  obtain ⟨i0, hi, hz0, hz1, hz2⟩ := info_parts Try.infoPacket
  have hkm : k + m ≤ c := by omega
  have HKM := Lib.hid hkm
  have HNL := Lib.hid hnl
  have H1N := Lib.hid h1n
  have HSR := Lib.hid hsrc
  have HRO := Lib.hid hroom
  have HTH := Lib.hid hthere
  have HN1 := Lib.hid hn1
  have hkk : ((k : Int) == (j : Int)) = false := by rw [beq_eq_false_iff_ne]; omega
  rw [← hn]
  clear h hk hj hone hc hm hr hl ht hn hmm hn1 hnl h1n had hsrc hroom hthere hkm
  go_enter Try.func80, Try.ntmps80
  go_wp2_with fail
  go_region_law (refine step_append_room rfl (.tmp 22) (.tmp 25) 43 rfl 52 i0 3 Try.underlying43 hi hz1 gr 0 k c rfl ad m (c - j) (rowsP (rs.drop (k + 1))) rfl HNL.out (HSR.out _ (kept_draw (kept_refl _ _) ⟨1, rfl⟩)) H1N.out HKM.out (HRO.out _ (kept_draw (kept_refl _ _) ⟨1, rfl⟩)) ?_; rw [← HN1.out, Nat.zero_add])
  obtain ⟨zs, hzl, hcl⟩ := run_clear3 (w.drew.setCells gr (k * 3) (rowsP (rs.drop (k + 1)))) 43 52 _ _ _ Try.underlying43 (zero_cells Try.infoPkz) rfl rfl rfl gr (n1 * 3) 1 (c - n1) (by decide) (HTH.out _ (kept_draw (kept_refl _ _) ⟨1, rfl⟩))
  have HZL := Lib.hid hzl
  clear hzl hs1 hs2 hs3
  go_wp2_with fail
  go_ret
  have hend := HEND.out zs HZL.out w.drew (kept_draw (kept_refl _ _) ⟨1, rfl⟩)
  exact ⟨_, rfl, hend.1, rfl, hend.2⟩

end Go.Proofs.Ytneomfhlkdpnjaa
