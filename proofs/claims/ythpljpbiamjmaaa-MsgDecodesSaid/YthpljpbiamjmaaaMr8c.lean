/- Contracts: the reference: Encode: small lemmas on what a region leaves. -/
import Derived.BigRegion
import Derived.Deep.AppendLies
import Derived.Test.YthpljpbiamjmaaaKit
import Derived.Test.YthpljpbiamjmaaaRow
import Derived.Test.YthpljpbiamjmaaaNet0
import Derived.Test.YthpljpbiamjmaaaMr6e
import Derived.Test.YthpljpbiamjmaaaMr8
namespace Go.Proofs.Ythpljpbiamjmaaa
open Go.RowKit Go.Proofs

theorem enSt_addX {w W W1 W4 : World} {gM : Nat} {cs : List Value} {v v4 : Value} {l : List UInt8} {x : UInt8} {y : Value} {n : Nat} (h : EnSt w W gM cs v l) (hb : Below W.heap.size W W1) (hg : W1.grownBy W4 v.ownBlock) (h4 : W4.ownsRow 0 5 1 v4 (n + 1) (l.map byteV ++ [y])) (hy : y = byteV x) (hn : n = l.length) (hat : ∀ k, v4.ownBlock = some k → v.ownBlock = some k ∨ W.heap.size ≤ k) : EnSt w W4 gM cs v4 (l ++ [x]) := by
  subst hy
  exact enSt_add h hb hg h4 hn hat

theorem len_snoc {n : Nat} {l : List UInt8} (h : n = l.length) (x : UInt8) : n + 1 = (l ++ [x]).length := by rw [List.length_append, ← h]; rfl

theorem hfa_of {w W : World} {gM : Nat} {cs : List Value} {a : Option Addr} {n c : Nat} {l : List UInt8} (h1 : n = l.length) (h2 : EnSt w W gM cs (.slice a n c) l) : ∃ a9 n9 c9, Value.slice a n c = .slice a9 n9 c9 ∧ Hid (n9 = l.length ∧ EnSt w W gM cs (.slice a9 n9 c9) l) := ⟨a, n, c, rfl, Lib.hid ⟨h1, h2⟩⟩

theorem own_of_st {w W : World} {gM : Nat} {cs : List Value} {v : Value} {n : Nat} {l : List UInt8} (h : EnSt w W gM cs v l) (hn : n = l.length) : W.ownsRow 0 5 1 v n (l.map byteV) := by
  subst hn
  exact own_zero h.2.2

theorem mx_one {n : Nat} {l : List UInt8} (h : n = l.length) (hl : l.length ≤ 500000000) : n + 1 ≤ maxLen := by unfold maxLen; omega

theorem bt_one {n : Nat} {l : List UInt8} (h : n = l.length) (hl : l.length ≤ 500000000) : (n + 1) * 1 ≤ 140737488355328 := by omega

theorem cell_new (w : World) (x : Value) (T : TypeId) : (w.alloc (.cells #[x] T)).cell? ⟨w.heap.size, 0, none⟩ = some x := by
  rw [cell_of_row _ _ _ _ _ _ (heap_alloc_new w (.cells #[x] T))]
  rfl

theorem news_one {w : World} {q : Nat} {x : Value} (h : w.cell? ⟨q, 0, none⟩ = some x) : ∀ j u, [x][j]? = some u → w.cell? ((⟨q, 0, none⟩ : Addr).add j) = some u := by
  intro j u hj
  have hadd : ∀ j, (⟨q, 0, none⟩ : Addr).add j = ⟨q, j, none⟩ := fun j => by unfold Addr.add; split <;> simp_all
  rw [hadd]
  match j with
  | 0 => simp only [List.getElem?_cons_zero, Option.some.injEq] at hj; subst hj; exact h
  | j + 1 => simp at hj

theorem own_ne_new {w W : World} {gM : Nat} {cs : List Value} {v : Value} {l : List UInt8} (h : EnSt w W gM cs v l) : v.ownBlock ≠ some W.heap.size := fun e => by
  have := own_lt h.2.2 e
  omega

theorem enS2_new {w wL : World} {gM : Nat} {cs : List Value} {v : Value} {l : List UInt8} (h : EnSt w wL gM cs v l) (ce : List Value) : EnS2 w (wL.alloc (.cells ce.toArray 46)) gM cs wL.heap.size ce v l := ⟨enSt_more h _, Rw.alloc wL _ _ (Nat.zero_le _)⟩

end Go.Proofs.Ythpljpbiamjmaaa
