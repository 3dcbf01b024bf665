/- Contracts: slices.DeleteFunc of packets. -/
import Derived.BigRegion
import Derived.Deep.RegionHeld3
import Derived.Test.YtneomfhlkdpnjaaKit
import Derived.Test.YtneomfhlkdpnjaaRow
import Derived.Test.YtneomfhlkdpnjaaNet0
import Derived.Test.YtneomfhlkdpnjaaNet8
import Derived.Test.YtneomfhlkdpnjaaNet14
namespace Go.Proofs.Ytneomfhlkdpnjaa
open Go.RowKit Go.Proofs

def keepM (k : Int) (rs : List RecP) : List RecP := rs.filter (fun r => !isM k r.p)

theorem keepM_snoc (k : Int) {rs : List RecP} {j : Nat} {r : RecP} (hr : rs[j]? = some r) : keepM k (rs.take (j + 1)) = keepM k (rs.take j) ++ (if isM k r.p then [] else [r]) := by
  unfold keepM
  rw [take_succ_of hr, List.filter_append]
  congr 1
  cases h : isM k r.p <;> simp [h]

theorem idxI_some {k : Int} {rs : List RecP} (h : idxI k rs ≠ -1) : ∃ i : Nat, idxI k rs = (i : Int) ∧ i < rs.length ∧ keepM k (rs.take (i + 1)) = rs.take i := by
  unfold idxI at h ⊢
  cases hq : rs.findIdx? (fun r => isM k r.p) with
  | none => rw [hq] at h; exact absurd rfl h
  | some i =>
    obtain ⟨hil, hp, hb⟩ := List.findIdx?_eq_some_iff_getElem.1 hq
    refine ⟨i, rfl, hil, ?_⟩
    rw [keepM_snoc k (List.getElem?_eq_getElem hil), hp, if_pos rfl, List.append_nil]
    unfold keepM
    rw [List.filter_eq_self]
    intro x hx
    obtain ⟨j, hj⟩ := List.mem_iff_getElem?.1 hx
    rw [List.getElem?_take] at hj
    split at hj
    · rename_i hji
      have h1 := hb j hji
      rw [(List.getElem?_eq_some_iff.1 hj).2] at h1
      simpa using h1
    · cases hj

theorem idxI_no {k : Int} {rs : List RecP} (h : idxI k rs = -1) : keepM k rs = rs := by
  unfold idxI at h
  cases hq : rs.findIdx? (fun r => isM k r.p) with
  | none =>
    rw [List.findIdx?_eq_none_iff] at hq
    unfold keepM
    rw [List.filter_eq_self]
    intro x hx
    simp [hq x hx]
  | some i => rw [hq] at h; simp at h

/-- The block while packets are struck out of it: i of them kept, j of them seen. -/
def DelL (L : List Value) (k : Int) (rs : List RecP) (c i j : Nat) : Prop :=
  L.length = c * 3 ∧ i = (keepM k (rs.take j)).length ∧ i < j ∧ j ≤ rs.length ∧ rs.length ≤ c ∧ L.take (i * 3) = rowsP (keepM k (rs.take j)) ∧ (L.take (rs.length * 3)).drop (j * 3) = rowsP (rs.drop j)

theorem delL_start {L : List Value} {k : Int} {rs : List RecP} {c i : Nat} (hl : L.length = c * 3) (hc : rs.length ≤ c) (ht : L.take (rs.length * 3) = rowsP rs) (hi : i < rs.length) (hk : keepM k (rs.take (i + 1)) = rs.take i) : DelL L k rs c i (i + 1) := by
  refine ⟨hl, by rw [hk, List.length_take]; omega, by omega, by omega, hc, ?_, by rw [ht, rowsP_drop]⟩
  rw [hk, rowsP_take, ← ht, List.take_take]
  congr 1
  omega

theorem delL_cell {L : List Value} {k : Int} {rs : List RecP} {c i j : Nat} {r : RecP} (h : DelL L k rs c i j) (hr : rs[j]? = some r) {x : Nat} {v : Value} (hx : (cellsP r)[x]? = some v) : L[j * 3 + x]? = some v := by
  obtain ⟨_, _, _, _, _, _, hd⟩ := h
  have hjl := (List.getElem?_eq_some_iff.1 hr).1
  have hx3 : x < 3 := (List.getElem?_eq_some_iff.1 hx).1
  have h1 : (rowsP (rs.drop j))[x]? = some v := by
    have := rowsP_at (rs := rs.drop j) (k := 0) (r := r) (by rw [List.getElem?_drop]; exact hr) hx
    simpa using this
  rw [← hd, List.getElem?_drop, List.getElem?_take, if_pos (by omega)] at h1
  exact h1

theorem delL_skip {L : List Value} {k : Int} {rs : List RecP} {c i j : Nat} {r : RecP} (h : DelL L k rs c i j) (hr : rs[j]? = some r) (hm : isM k r.p = true) : DelL L k rs c i (j + 1) := by
  obtain ⟨h1, h2, h3, h4, h5, h6, h7⟩ := h
  have hjl := (List.getElem?_eq_some_iff.1 hr).1
  have hk : keepM k (rs.take (j + 1)) = keepM k (rs.take j) := by rw [keepM_snoc k hr, if_pos hm, List.append_nil]
  refine ⟨h1, by rw [hk]; exact h2, by omega, by omega, h5, by rw [hk]; exact h6, ?_⟩
  have e3 : (j + 1) * 3 = j * 3 + 3 := by omega
  rw [e3, ← List.drop_drop, h7, rowsP_drop, rowsP_drop, List.drop_drop, e3]

theorem delL_keep {L : List Value} {k : Int} {rs : List RecP} {c i j : Nat} {r : RecP} (h : DelL L k rs c i j) (hr : rs[j]? = some r) (hm : isM k r.p = false) {f t : Int} {u : Value} (hc : cellsP r = [.int .i64 f, .int .i64 t, u]) :
    DelL (L.take (i * 3) ++ ([.int .i64 f, .int .i64 t, u] ++ L.drop (i * 3 + 3))) k rs c (i + 1) (j + 1) := by
  obtain ⟨h1, h2, h3, h4, h5, h6, h7⟩ := h
  have hjl := (List.getElem?_eq_some_iff.1 hr).1
  have hk : keepM k (rs.take (j + 1)) = keepM k (rs.take j) ++ [r] := by rw [keepM_snoc k hr, if_neg (by rw [hm]; decide)]
  have hlt : (L.take (i * 3)).length = i * 3 := by rw [List.length_take]; omega
  refine ⟨?_, by rw [hk, List.length_append, ← h2]; rfl, by omega, by omega, h5, ?_, ?_⟩
  · simp only [List.length_append, hlt, List.length_cons, List.length_nil, List.length_drop]
    omega
  · rw [hk, rowsP_app, ← h6, ← List.append_assoc, List.take_append_of_le_length (by simp only [List.length_append, hlt, List.length_cons, List.length_nil]; omega),
      List.take_of_length_le (by simp only [List.length_append, hlt, List.length_cons, List.length_nil]; omega)]
    congr 1
    rw [← hc]
    unfold rowsP
    simp
  · have hd : (L.take (i * 3) ++ ([.int .i64 f, .int .i64 t, u] ++ L.drop (i * 3 + 3))).drop ((j + 1) * 3) = L.drop ((j + 1) * 3) := by
      rw [← List.append_assoc, List.drop_append, List.drop_of_length_le (by simp only [List.length_append, hlt, List.length_cons, List.length_nil]; omega), List.nil_append, List.drop_drop]
      congr 1
      simp only [List.length_append, hlt, List.length_cons, List.length_nil]
      omega
    have e3 : (j + 1) * 3 = j * 3 + 3 := by omega
    rw [List.drop_take, hd, ← List.drop_take, e3, ← List.drop_drop, h7, rowsP_drop, rowsP_drop, List.drop_drop, e3]

theorem delL_end {w : World} {L : List Value} {k : Int} {rs : List RecP} {c i gr : Nat} {zs : List Value} (h : DelL L k rs c i rs.length) (hm : c ≤ maxLen) (hr : Rw w 0 gr 52 L) (hz : zs.length = (rs.length - i) * 3) :
    OwnP (w.setCells gr (i * 3) zs) (.slice (some ⟨gr, 0, none⟩) i c) (keepM k rs) := by
  obtain ⟨h1, h2, h3, h4, h5, h6, h7⟩ := h
  rw [List.take_length] at h2 h6
  have hr2 := rw_mid hr (i * 3) zs (by rw [h1, hz]; omega)
  refine own_of_blk hr2 (by simp only [List.length_append, List.length_take, List.length_drop, h1, hz]; omega) hm h2 (by omega) ?_
  rw [List.take_append_of_le_length (by rw [List.length_take]; omega), List.take_of_length_le (by rw [List.length_take]; omega)]
  exact h6

end Go.Proofs.Ytneomfhlkdpnjaa
