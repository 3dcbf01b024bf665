/- A sum read out of a text: no dump. -/
import Derived.Lib.Bytealg
import Derived.Laws.ResultCell
import Derived.Laws.Rows
import Derived.Test.YtcpioladmcidcaaKit
import Derived.Test.YtcpioladmcidcaaRow
import Derived.Test.YtcpioladmcidcaaTxt0
namespace Go.Proofs.Ytcpioladmcidcaa
open Go.RowKit Go.Proofs

/-- Where among the digits. -/
def ixD (c : UInt8) : Int := Lib.indexByte digL16 c

def dOk (c : UInt8) : Bool := decide (0 ≤ ixD c)

def dV (c : UInt8) : Nat := (ixD c).toNat

def parB (a b : UInt8) : UInt8 := UInt8.ofNat (dV a * 16 + dV b)

def parL (s : List UInt8) (n : Nat) : List UInt8 := (List.range n).map fun i => parB (s.getD (2 * i) 0) (s.getD (2 * i + 1) 0)

def parOk (s : List UInt8) : Bool := decide (s.length = 64) && s.all dOk

def parR (s : List UInt8) : List UInt8 := if parOk s then parL s 32 else List.replicate 32 0

/-- What both readings answer. -/
def parV (s : List UInt8) : Value := .tuple #[.agg ((parR s).map byteV).toArray, .bool (parOk s)]

theorem ixD_bound (c : UInt8) : -1 ≤ ixD c ∧ ixD c < 16 := by
  have h : ∀ n : Fin 256, -1 ≤ ixD (UInt8.ofNat n.val) ∧ ixD (UInt8.ofNat n.val) < 16 := by decide +kernel
  have h2 := h ⟨c.toNat, c.toNat_lt⟩
  simpa using h2

theorem or4 {a b : Nat} (ha : a < 16) (hb : b < 16) : bits .or .i64 ((a : Int) * 16) (b : Int) = ((a * 16 + b : Nat) : Int) := by
  have h : ∀ a b : Fin 16, bits .or .i64 ((a.val : Int) * 16) (b.val : Int) = ((a.val * 16 + b.val : Nat) : Int) := by decide +kernel
  exact h ⟨a, ha⟩ ⟨b, hb⟩

theorem parOk_no {s : List UInt8} {j : Nat} {c : UInt8} (h : s[j]? = some c) (hc : ixD c < 0) : parOk s = false := by
  unfold parOk
  have : s.all dOk = false := by
    rw [List.all_eq_false]
    exact ⟨c, List.mem_of_getElem? h, by unfold dOk; simp; omega⟩
  rw [this, Bool.and_false]

theorem parOk_len {s : List UInt8} (h : s.length ≠ 64) : parOk s = false := by
  unfold parOk
  rw [decide_eq_false h, Bool.false_and]

theorem parOk_yes {s : List UInt8} (hl : s.length = 64) (h : ∀ j (c : UInt8), j < 64 → s[j]? = some c → 0 ≤ ixD c) : parOk s = true := by
  unfold parOk
  rw [decide_eq_true hl, Bool.true_and, List.all_eq_true]
  intro c hc
  obtain ⟨j, hj⟩ := List.mem_iff_getElem?.1 hc
  have hlt := (List.getElem?_eq_some_iff.1 hj).1
  unfold dOk
  exact decide_eq_true (h j c (by omega) hj)

theorem parV_no {s : List UInt8} (h : parOk s = false) : parV s = .tuple #[.agg ((List.replicate 32 (0 : UInt8)).map byteV).toArray, .bool false] := by
  unfold parV parR
  rw [h]
  rfl

theorem parV_yes {s : List UInt8} (h : parOk s = true) : parV s = .tuple #[.agg ((parL s 32).map byteV).toArray, .bool true] := by
  unfold parV parR
  rw [h]
  rfl

theorem parL_set {s : List UInt8} {k : Nat} (hk : k < 32) {a b : UInt8} (ha : s[2 * k]? = some a) (hb : s[2 * k + 1]? = some b) :
    ((parL s k ++ List.replicate (32 - k) 0).map byteV).set k (byteV (parB a b)) = (parL s (k + 1) ++ List.replicate (32 - (k + 1)) 0).map byteV := by
  have hl : (parL s k).length = k := by simp [parL]
  rw [← List.map_set, show 32 - k = (32 - (k + 1)) + 1 from by omega, List.replicate_succ, List.set_append_right _ _ (by rw [hl]; exact Nat.le_refl _), hl, Nat.sub_self]
  have : parL s (k + 1) = parL s k ++ [parB a b] := by
    unfold parL
    rw [List.range_succ, List.map_append]
    simp [List.getD_eq_getElem?_getD, ha, hb]
  rw [this]
  simp

theorem dig_ix {k : Nat} (hk : k < 16) (x : UInt8) : hexD k = x ↔ ixD x = (k : Int) := by
  have h : ∀ (k : Fin 16) (n : Fin 256), (hexD k.val = UInt8.ofNat n.val) ↔ ixD (UInt8.ofNat n.val) = (k.val : Int) := by decide +kernel
  have h2 := h ⟨k, hk⟩ ⟨x.toNat, x.toNat_lt⟩
  simpa using h2

theorem or8 {a b : Nat} (ha : a < 16) (hb : b < 16) : bits .or .u8 ((a : Int) * 16) (b : Int) = ((a * 16 + b : Nat) : Int) := by
  have h : ∀ a b : Fin 16, bits .or .u8 ((a.val : Int) * 16) (b.val : Int) = ((a.val * 16 + b.val : Nat) : Int) := by decide +kernel
  exact h ⟨a, ha⟩ ⟨b, hb⟩

/-- What the reference has after i letters. -/
def outA (s : List UInt8) (i j : Nat) : UInt8 := if 2 * j + 1 < i then parB (s.getD (2 * j) 0) (s.getD (2 * j + 1) 0) else if 2 * j < i then UInt8.ofNat (dV (s.getD (2 * j) 0)) else 0

def outL (s : List UInt8) (i : Nat) : List UInt8 := (List.range 32).map (outA s i)

theorem outL_len (s : List UInt8) (i : Nat) : (outL s i).length = 32 := by simp [outL]

theorem outL_at (s : List UInt8) (i : Nat) {q : Nat} (hq : q < 32) : (outL s i)[q]? = some (outA s i q) := by
  unfold outL
  rw [List.getElem?_map, List.getElem?_range hq]
  rfl

theorem outL_set (s : List UInt8) {i q : Nat} (hi : i = 2 * q ∨ i = 2 * q + 1) : (outL s i).set q (outA s (i + 1) q) = outL s (i + 1) := by
  apply List.ext_getElem?
  intro j
  rcases Nat.lt_or_ge j 32 with hj | hj
  · rw [List.getElem?_set, outL_at s (i + 1) hj]
    by_cases hqj : q = j
    · subst hqj
      rw [if_pos rfl, if_pos (by rw [outL_len]; exact hj)]
    · rw [if_neg hqj, outL_at s i hj]
      unfold outA
      congr 1
      by_cases h1 : 2 * j + 1 < i
      · have e1 : 2 * j + 1 < i + 1 := by omega
        rw [if_pos h1, if_pos e1]
      · have e1 : ¬ 2 * j + 1 < i + 1 := by omega
        rw [if_neg h1, if_neg e1]
        by_cases h2 : 2 * j < i
        · have e2 : 2 * j < i + 1 := by omega
          rw [if_pos h2, if_pos e2]
        · have e2 : ¬ 2 * j < i + 1 := by omega
          rw [if_neg h2, if_neg e2]
  · rw [List.getElem?_eq_none (by rw [List.length_set, outL_len]; exact hj), List.getElem?_eq_none (by rw [outL_len]; exact hj)]

theorem outL_full (s : List UInt8) : outL s 64 = parL s 32 := by
  unfold outL parL
  apply List.map_congr_left
  intro j hj
  have := List.mem_range.1 hj
  unfold outA
  rw [if_pos (by omega)]

theorem outL_none (s : List UInt8) : outL s 0 = List.replicate 32 0 := by
  unfold outL
  apply List.ext_getElem?
  intro j
  rcases Nat.lt_or_ge j 32 with hj | hj
  · rw [List.getElem?_map, List.getElem?_range hj, List.getElem?_replicate, if_pos hj]
    rfl
  · rw [List.getElem?_eq_none (by simpa using hj), List.getElem?_eq_none (by simpa using hj)]

/-- The byte as it was, and as it is behind one letter more. -/
theorem outA_step (s : List UInt8) {i q : Nat} {x : UInt8} (hi : i = 2 * q ∨ i = 2 * q + 1) (hx : s[i]? = some x) (hprev : ∀ c, 2 * q < i → s[2 * q]? = some c → 0 ≤ ixD c) (hlen : 2 * q < s.length) :
    ∃ v : Nat, v < 16 ∧ outA s i q = UInt8.ofNat v ∧ outA s (i + 1) q = UInt8.ofNat (v * 16 + dV x) := by
  rcases hi with rfl | rfl
  · refine ⟨0, by omega, ?_, ?_⟩
    · unfold outA
      rw [if_neg (by omega), if_neg (by omega)]
      rfl
    · unfold outA
      rw [if_neg (by omega), if_pos (by omega), List.getD_eq_getElem?_getD, hx]
      simp
  · obtain ⟨c, hc⟩ : ∃ c, s[2 * q]? = some c := ⟨_, List.getElem?_eq_getElem hlen⟩
    have hb := ixD_bound c
    have hp := hprev c (by omega) hc
    refine ⟨dV c, by unfold dV; omega, ?_, ?_⟩
    · unfold outA
      rw [if_neg (by omega), if_pos (by omega), List.getD_eq_getElem?_getD, hc]
      rfl
    · unfold outA
      rw [if_pos (by omega), List.getD_eq_getElem?_getD, hc, List.getD_eq_getElem?_getD, hx]
      rfl

theorem run_char {P : Program} {T : TypeId} (hT : P.underlying T = some .string) (t : ByteArray) (i : Nat) (x : UInt8) (h : t.data.toList[i]? = some x) (k : IntKind) (z : Int) (hz : z = (i : Int)) (W : World) :
    (Instr.index T (.string t) (.int k z)).run P W = .ok (.int .u8 (x.toNat : Int)) W := by
  subst hz
  obtain ⟨hi, hx⟩ := List.getElem?_eq_some_iff.1 h
  have hi' : i < t.size := by rw [← size_data]; exact hi
  rw [run_index_string W T t k i hT, dif_pos ⟨by omega, by omega⟩]
  have h3 : t[(i : Int).toNat]'(by rw [Int.toNat_natCast]; exact hi') = x := by
    rw [← hx]
    rfl
  rw [h3]

/-- Two results: a row out of a cell, a slot. -/
theorem results_row_tmp {P : Program} {fn : Func} {p u : Tmp} {ty : TypeId} (h : fn.results = #[.cell p ty, .tmp u]) (tmps : Array Value) (w : World) (g base : Nat) (t : TypeId) (xs : List Value) (d : TypeDesc)
    (hp : tmps.getD p undef = .pointer (some ⟨g, 0, none⟩)) (hg : Rw w base g t xs)
    (hu : P.underlying ty = some d) (hd : (match d with | .struct _ | .array _ _ => true | _ => false) = true) (hi : (P.info? ty).map (·.size) = some xs.length) (v : Value) (hv : tmps.getD u undef = v) :
    (results fn tmps).run P w = .ok (.tuple #[.agg xs.toArray, v]) w := by
  have hl := run_loadVar_row (P := P) w g t ty xs.toArray (0, 0) d hg.2 hu hd (by simpa using hi)
  rw [results_cell_tmp h, hp, hv]
  simp [asAddr, hl, Result.andThen]

end Go.Proofs.Ytcpioladmcidcaa
