/- Contracts: slices.Delete of packets. -/
import Derived.BigRegion
import Derived.Deep.RegionHeld3
import Derived.Deep.RegionLaw
import Derived.Test.YtneomfhlkdpnjaaProg
import Derived.Test.YtneomfhlkdpnjaaKit
import Derived.Test.YtneomfhlkdpnjaaRow
import Derived.Test.YtneomfhlkdpnjaaRow2
import Derived.Test.YtneomfhlkdpnjaaFp
import Derived.Test.YtneomfhlkdpnjaaNet0
namespace Go.Proofs.Ytneomfhlkdpnjaa
open Go.RowKit Go.Proofs

/-- The whole block of a row of packets. -/
theorem ownP_blk {w : World} {v : Value} {rs : List RecP} (h : OwnP w v rs) (hne : rs ≠ []) : ∃ g c L, v = .slice (some ⟨g, 0, none⟩) rs.length c ∧ rs.length ≤ c ∧ c ≤ maxLen ∧ Rw w 0 g 52 L ∧ L.length = c * 3 ∧ L.take (rs.length * 3) = rowsP rs := by
  rcases h.2 with ⟨_, hn⟩ | ⟨g, cap, cur, rfl, _, hh, hc, hm, hs, ht⟩
  · exact absurd (List.eq_nil_of_length_eq_zero hn) hne
  · exact ⟨g, cap, cur.toList, rfl, hc, hm, ⟨Nat.zero_le _, by rw [Array.toArray_toList]; exact hh⟩, by rw [Array.length_toList, hs], ht⟩

theorem own_of_blk {w : World} {g c n : Nat} {L : List Value} {rs : List RecP} (h : Rw w 0 g 52 L) (hl : L.length = c * 3) (hm : c ≤ maxLen) (hn : n = rs.length) (hnc : n ≤ c) (ht : L.take (n * 3) = rowsP rs) : OwnP w (.slice (some ⟨g, 0, none⟩) n c) rs := by
  subst hn
  exact ⟨rowsP_len rs, .inr ⟨g, c, L.toArray, rfl, Nat.zero_le _, h.2, hnc, hm, by rw [List.size_toArray, hl], ht⟩⟩

/-- Written in the middle. -/
theorem rw_mid {w : World} {g : Nat} {L : List Value} (h : Rw w 0 g 52 L) (o : Nat) (ys : List Value) (ho : o + ys.length ≤ L.length) : Rw (w.setCells g o ys) 0 g 52 (L.take o ++ (ys ++ L.drop (o + ys.length))) := by
  have e : L = L.take o ++ ((L.drop o).take ys.length ++ L.drop (o + ys.length)) := by
    conv => lhs; rw [← List.take_append_drop o L, ← List.take_append_drop ys.length (L.drop o), List.drop_drop]
  rw [e] at h
  exact Rw.storedMid h o ys (by rw [List.length_take]; omega) (by rw [List.length_take, List.length_drop]; omega)

theorem run_clear3 {P : Program} (w : World) (t e : TypeId) (z0 z1 z2 : Value) (ht : P.underlying t = some (.slice e)) (hv : ∀ w, (zeroValue e).run P w = .ok (.agg #[z0, z1, z2]) w) (h0 : z0.oneCell' = true) (h1 : z1.oneCell' = true) (h2 : z2.oneCell' = true) (b o n c : Nat) (hn : 0 < n)
    (hc : w.there b o (n * 3)) : ∃ zs : List Value, zs.length = n * 3 ∧ ∀ ty, (Builtin.clear_ #[t] ty #[.slice (some ⟨b, o, none⟩) n c]).run P w = .ok (.tuple #[]) (w.setCells b o zs) := by
  refine ⟨(Builtin.zeroCells #[z0, z1, z2] n).toList, by simp [Builtin.zeroCells], fun ty => ?_⟩
  have hst := run_storeCells_cells (P := P) b o (Builtin.zeroCells #[z0, z1, z2] n).toList 0 w (fun j hj => by simpa using (hc j (by simpa [Builtin.zeroCells] using hj)).1) (fun j hj => by simpa using (hc j (by simpa [Builtin.zeroCells] using hj)).2) (fun v hv' => by
    simp only [Builtin.zeroCells, Array.toList_map, List.mem_map] at hv'
    obtain ⟨i, _, rfl⟩ := hv'
    have hi : i % 3 < 3 := Nat.mod_lt _ (by decide)
    show (#[z0, z1, z2][i % 3]!).oneCell' = true
    rcases (by omega : i % 3 = 0 ∨ i % 3 = 1 ∨ i % 3 = 2) with h | h | h <;> rw [h]
    · exact h0
    · exact h1
    · exact h2)
  simp only [Nat.add_zero] at hst
  obtain ⟨m, rfl⟩ : ∃ m, n = m + 1 := ⟨n - 1, by omega⟩
  have hcz : (Value.agg #[z0, z1, z2]).cells = #[z0, z1, z2] := rfl
  simp [Builtin.clear_, run_underlying ht, hv, hcz, hst]

theorem erase_rows (rs : List RecP) (k : Nat) : rowsP (rs.eraseIdx k) = (rowsP rs).take (k * 3) ++ (rowsP rs).drop ((k + 1) * 3) := by
  rw [List.eraseIdx_eq_take_drop_succ, rowsP_app, rowsP_take, rowsP_drop]

theorem sl3 (W : World) (a : Option Addr) (len cap : Nat) (lo hi mx : Option Value) {l h m : Nat} (hb : (Instr.sliceBounds true len cap lo hi mx).run Try.prog W = .ok (l, h, m) W) :
    (Instr.slice 43 (.slice a len cap) lo hi mx).run Try.prog W = .ok (.slice (if m = l then a else a.map (·.add (l * 3))) (h - l) (m - l)) W := by
  have hsz : (sizeOf 52).run Try.prog W = .ok 3 W := by kernel_rfl
  have hel : Try.prog.elem 43 = 52 := by kernel_rfl
  rw [run_slice_any W 43 a len cap (by kernel_rfl), hb]
  simp [Result.andThen, sliced, hel, hsz]

theorem kept_setCells {F : Nat → Prop} {a w : World} (h : Kept F a w) {g : Nat} (hg : F g ∨ a.heap.size ≤ g) (o : Nat) (ys : List Value) : Kept F a (w.setCells g o ys) := kept_puts hg ys o h

end Go.Proofs.Ytneomfhlkdpnjaa
