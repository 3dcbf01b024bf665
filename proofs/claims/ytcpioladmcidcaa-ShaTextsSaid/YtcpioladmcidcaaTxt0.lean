/- Digits of bytes: no dump. -/
import Derived.Test.YtcpioladmcidcaaKit
import Derived.Test.YtcpioladmcidcaaRow
import Derived.Test.YtcpioladmcidcaaSha
namespace Go.Proofs.Ytcpioladmcidcaa
open Go.RowKit Go.Proofs

/-- The sixteen digits. -/
def digL16 : List UInt8 := [48, 49, 50, 51, 52, 53, 54, 55, 56, 57, 97, 98, 99, 100, 101, 102]

def hexD (q : Nat) : UInt8 := digL16.getD q 0

def hexS (l : List UInt8) : List UInt8 := l.flatMap fun c => [hexD (c.toNat / 16), hexD (c.toNat % 16)]

theorem hexS_snoc (l : List UInt8) (c : UInt8) : hexS (l ++ [c]) = hexS l ++ [hexD (c.toNat / 16), hexD (c.toNat % 16)] := by
  unfold hexS
  rw [List.flatMap_append]
  simp

theorem hexS_len (l : List UInt8) : (hexS l).length = 2 * l.length := by
  induction l with
  | nil => rfl
  | cons c l ih =>
    have : hexS (c :: l) = [hexD (c.toNat / 16), hexD (c.toNat % 16)] ++ hexS l := rfl
    rw [this, List.length_append, ih, List.length_cons]
    simp
    omega

theorem and15 (c : UInt8) : bits .and .u8 (c.toNat : Int) 15 = ((c.toNat % 16 : Nat) : Int) := by
  have h : ∀ n : Fin 256, bits .and .u8 (n.val : Int) 15 = ((n.val % 16 : Nat) : Int) := by decide +kernel
  exact h ⟨c.toNat, c.toNat_lt⟩

theorem dig_at {q : Nat} (h : q < 16) : digL16[q]? = some (hexD q) := by
  unfold hexD
  rw [List.getD_eq_getElem?_getD, List.getElem?_eq_getElem (show q < digL16.length from h)]
  rfl

/-- The digits as a string. -/
def digS : ByteArray := ⟨#[48, 49, 50, 51, 52, 53, 54, 55, 56, 57, 97, 98, 99, 100, 101, 102]⟩

theorem digS_at : ∀ j : Fin 16, digS.data[j.val]'(j.isLt) = hexD j.val := by decide +kernel

theorem run_digit {P : Program} {t : TypeId} (ht : P.underlying t = some .string) {q : Nat} (h : q < 16) (k : IntKind) (W : World) :
    (Instr.index t (.string digS) (.int k (q : Int))).run P W = .ok (.int .u8 ((hexD q).toNat : Int)) W := by
  have hlt : 0 ≤ (q : Int) ∧ (q : Int) < digS.size := ⟨by omega, by show (q : Int) < ((16 : Nat) : Int); omega⟩
  rw [run_index_string W t digS k q ht, dif_pos hlt]
  have h2 := digS_at ⟨q, h⟩
  have h3 : digS[(q : Int).toNat]'(by rw [Int.toNat_natCast]; exact h) = hexD q := h2
  rw [h3]

/-- An append onto a row of the call's own, as one step of a region that draws. -/
theorem step_append_own1 {P : Program} {ops : Array Oper} {o : Oper} {a : Act} {w : World} {K : Act → World → Prop} {Q : Exit → Act → World → Prop} {E : Prop} (hgd : o.guard = none) (s x : Operand) (t : TypeId)
    (ho : o.op = .call { callee := .builtin .append, args := #[s, x], argTypes := #[t, t] })
    (base : Nat) (e : TypeId) (i : TypeInfo) (z : Value) (ht : P.underlying t = some (.slice e)) (hi : P.info? e = some i) (hz : i.zero = some z)
    (hsize : i.size = 1) (hby : i.bytes = 1) (hzs : z.cells.size = 1)
    (v : Value) (n : Nat) (xs : List Value) (hs : a.eval s = v) (hown : w.ownsRow base e 1 v n xs)
    (ad : Addr) (m c : Nat) (news : List Value) (hx : a.eval x = .slice (some ad) m c) (hl : news.length = m) (hnews : ∀ j u, news[j]? = some u → w.cell? (ad.add j) = some u) (h1 : ∀ u ∈ news, u.oneCell' = true)
    (hn : n + m < 1099511627776) (hbase : base ≤ w.heap.size)
    (h : ∀ v' w', Hid (w'.ownsRow base e 1 v' (n + m) (xs ++ news)) → Hid (Below base w w') → K (a.put o.dst v') w') :
    if Region.wanted o (yielded ops a.tmps) = true then Oper.wp P o a w K Q else E := by
  have hw : Region.wanted o (yielded ops a.tmps) = true := by simp [Region.wanted, hgd]
  rw [if_pos hw]
  exact wp_append_own w s x t ho base e i z 1 1 ht hi hz hsize hby hzs (by decide) v n xs hs hown ad m c news hx (by rw [hl, Nat.mul_one]) hnews h1 (by unfold maxLen; omega) (by omega) hbase fun v' w' h2 h3 _ => h v' w' (Lib.hid h2) (Lib.hid (below_own hown h3 hbase))

end Go.Proofs.Ytcpioladmcidcaa
