/- Letters in capitals, and a byte of a host as a percent: plain words. -/
import Derived.Test.YtmfchplplpiogaaDoorProg
import Derived.Test.YtmfchplplpiogaaDoorKit
import Derived.Test.YtmfchplplpiogaaDoorPlain
import Derived.Test.YtmfchplplpiogaaDoorRow
import Derived.Test.YtmfchplplpiogaaDoorRow2
import Derived.Test.YtmfchplplpiogaaDoorCod5
import Derived.Test.YtmfchplplpiogaaDoorPct0
import Derived.Test.YtmfchplplpiogaaDoorHst0
namespace Go.Proofs.YtmfchplplpiogaaDoor
open Go.RowKit

def upB (c : UInt8) : UInt8 := if 97 ≤ (c.toNat : Int) ∧ (c.toNat : Int) ≤ 122 then c - 32 else c

def upL (l : List UInt8) : List UInt8 := l.map upB

theorem up_low {c : UInt8} (h : lowB c = c) : lowB (upB c) = c := byte_all (p := fun c => lowB c = c → lowB (upB c) = c) (by decide +kernel) c h

theorem up_37 (c : UInt8) : upB c = 37 → c = 37 := byte_all (p := fun c => upB c = 37 → c = 37) (by decide +kernel) c

theorem up_yes {c : UInt8} (h : 97 ≤ (c.toNat : Int) ∧ (c.toNat : Int) ≤ 122) : ((upB c).toNat : Int) = c.toNat - 32 := byte_all (p := fun c => 97 ≤ (c.toNat : Int) ∧ (c.toNat : Int) ≤ 122 → ((upB c).toNat : Int) = c.toNat - 32) (by decide +kernel) c h

theorem up_no {c : UInt8} (h : ¬ (97 ≤ (c.toNat : Int) ∧ (c.toNat : Int) ≤ 122)) : upB c = c := by unfold upB; rw [if_neg h]

theorem upL_snoc {l : List UInt8} {k : Nat} {c : UInt8} (h : l[k]? = some c) : upL (l.take (k + 1)) = upL (l.take k) ++ [upB c] := by
  obtain ⟨hk, rfl⟩ := List.getElem?_eq_some_iff.1 h
  rw [List.take_succ_eq_append_getElem hk]
  unfold upL
  rw [List.map_append]
  rfl

theorem low_up {h : List UInt8} (hl : lowL h = h) : lowL (upL h) = h := by
  unfold lowL upL at *
  rw [List.map_map]
  conv => rhs; rw [← List.map_id h]
  apply List.map_congr_left
  intro c hc
  have : lowB c = c := by
    have e := List.map_inj_left.1 (hl.trans (List.map_id h).symm) c hc
    exact e
  exact up_low this

theorem dec_pre : ∀ (p l : List UInt8), (37 : UInt8) ∉ p → decL (p ++ l) = p ++ decL l
  | [], l, _ => rfl
  | c :: p, l, h => by
    have hc : escB (c :: p ++ l) = false := by
      rw [Bool.eq_false_iff]
      intro he
      obtain ⟨a, b, r, e, _⟩ := escB_first he
      injection e with e1 e2
      exact h (by rw [e1]; simp)
    rw [decL_raw (by simp) hc]
    simp only [List.cons_append, List.getD_cons_zero, List.drop_succ_cons, List.drop_zero]
    rw [dec_pre p l (fun hc => h (by simp [hc]))]

theorem dec_one (c : UInt8) (l : List UInt8) : decL (37 :: hexB (c.toNat / 16) :: hexB (c.toNat % 16) :: l) = c :: decL l := by
  have hc := c.toNat_lt
  have he2 : escB (37 :: hexB (c.toNat / 16) :: hexB (c.toNat % 16) :: l) = true := (escB_iff _).2 ⟨by simp, by
    simp only [List.getD_cons_succ, List.getD_cons_zero]
    rw [hexB_val _ (by omega)]
    omega, by
    simp only [List.getD_cons_succ, List.getD_cons_zero]
    rw [hexB_val _ (by omega)]
    omega⟩
  rw [decL_esc he2]
  have hv : valB (37 :: hexB (c.toNat / 16) :: hexB (c.toNat % 16) :: l) = c := by
    unfold valB
    simp only [List.getD_cons_succ, List.getD_cons_zero]
    rw [hexB_val _ (by omega), hexB_val _ (by omega)]
    apply UInt8.toNat_inj.1
    rw [UInt8.toNat_ofNat', Nat.mod_eq_of_lt (by omega)]
    omega
  rw [hv]
  rfl

theorem host_of {s h t : List UInt8} (he : hostP s = some h) (ht : lowL (decL t) = h) : hostP t = some h := by
  have h1 := host_host he
  obtain ⟨h2, h3, _, _⟩ := host_low he
  have h4 : hostP h = hostD h := by unfold hostP; rw [dec_no h h3, h2]
  unfold hostP
  rw [ht, ← h4, h1]

theorem host_pct {s h : List UInt8} {k : Nat} {c : UInt8} (he : hostP s = some h) (hk : h[k]? = some c) : hostP (h.take k ++ 37 :: hexB (c.toNat / 16) :: hexB (c.toNat % 16) :: h.drop (k + 1)) = some h := by
  obtain ⟨h2, h3, _, _⟩ := host_low he
  refine host_of he ?_
  obtain ⟨hk2, rfl⟩ := List.getElem?_eq_some_iff.1 hk
  rw [dec_pre _ _ (fun hc => h3 (List.mem_of_mem_take hc)), dec_one, dec_no _ (fun hc => h3 (List.mem_of_mem_drop hc)), ← List.drop_eq_getElem_cons hk2, List.take_append_drop, h2]

theorem host_up {s h : List UInt8} (he : hostP s = some h) : hostP (upL h) = some h := by
  obtain ⟨h2, h3, _, _⟩ := host_low he
  refine host_of he ?_
  rw [dec_no, low_up h2]
  intro hc
  obtain ⟨c, hc1, hc2⟩ := List.mem_map.1 hc
  exact h3 (by rw [← up_37 c hc2]; exact hc1)

theorem conv_drew (w : World) (o : Obj) : Below (w.alloc o).heap.size (w.alloc o) (w.drew.alloc o) := by
  rw [show w.drew.alloc o = (w.alloc o).drew from rfl]
  exact (Below.refl _ _).drew

theorem conv_one (c : UInt8) (W W' : World) (hb : Below (W.alloc (.cells #[.int .u8 c.toNat] 5)).heap.size (W.alloc (.cells #[.int .u8 c.toNat] 5)) W') :
    (convert 34 9 (.slice (some ⟨W.heap.size, 0, none⟩) 1 1)).run Tryd.prog W' = .ok (.string ⟨#[c]⟩) W' := by
  rw [run_convert_bytes_arg (P := Tryd.prog) (w := W') 34 5 Tryd.underlying34 Tryd.underlying5 W.heap.size 0 1 1 [(c.toNat : Int)] rfl (fun i hi => ?_) 9 Tryd.underlying9]
  · congr 2
    simp [strOfNums]
  · have h0 : (W.alloc (.cells #[.int .u8 c.toNat] 5)).cell? ⟨W.heap.size, 0 + i, none⟩ = some (.int .u8 ([(c.toNat : Int)].getD i 0)) := by
      rw [cell_of_row _ _ _ _ 5 (0, 0) (heap_alloc_new W _)]
      match i, hi with
      | 0, _ => rfl
    exact (hb.cell (p := ⟨W.heap.size, 0 + i, none⟩) (block_of_cell h0)).trans h0

theorem conv_pair (x y : UInt8) (W W' : World) (hb : Below (W.alloc (.cells #[.int .u8 x.toNat, .int .u8 y.toNat] 5)).heap.size (W.alloc (.cells #[.int .u8 x.toNat, .int .u8 y.toNat] 5)) W') :
    (convert 34 9 (.slice (some ⟨W.heap.size, 0, none⟩) 2 2)).run Tryd.prog W' = .ok (.string ⟨#[x, y]⟩) W' := by
  rw [run_convert_bytes_arg (P := Tryd.prog) (w := W') 34 5 Tryd.underlying34 Tryd.underlying5 W.heap.size 0 2 2 [(x.toNat : Int), (y.toNat : Int)] rfl (fun i hi => ?_) 9 Tryd.underlying9]
  · congr 2
    simp [strOfNums]
  · have h0 : (W.alloc (.cells #[.int .u8 x.toNat, .int .u8 y.toNat] 5)).cell? ⟨W.heap.size, 0 + i, none⟩ = some (.int .u8 ([(x.toNat : Int), (y.toNat : Int)].getD i 0)) := by
      rw [cell_of_row _ _ _ _ 5 (0, 0) (heap_alloc_new W _)]
      match i, hi with
      | 0, _ => rfl
      | 1, _ => rfl
    exact (hb.cell (p := ⟨W.heap.size, 0 + i, none⟩) (block_of_cell h0)).trans h0

end Go.Proofs.YtmfchplplpiogaaDoor
