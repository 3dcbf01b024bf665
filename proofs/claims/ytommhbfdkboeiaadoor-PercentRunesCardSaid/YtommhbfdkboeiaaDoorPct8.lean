/- A number's bytes: which of them are UTF-8; and a row of bytes read as a text. -/
import Derived.Laws.BitsLemmas
import Derived.Test.YtommhbfdkboeiaaDoorKit
import Derived.Test.YtommhbfdkboeiaaDoorRow
import Derived.Test.YtommhbfdkboeiaaDoorCod5
import Derived.Test.YtommhbfdkboeiaaDoorCod8
import Derived.Test.YtommhbfdkboeiaaDoorPct5
import Derived.Test.YtommhbfdkboeiaaDoorPct7
namespace Go.Proofs.YtommhbfdkboeiaaDoor
open Go.RowKit Go.Proofs

/-- Block g begins with these bytes. -/
def CellsAt (w : World) (g : Nat) (l : List UInt8) : Prop := ∀ (j : Nat) (x : UInt8), l[j]? = some x → w.cell? ⟨g, j, none⟩ = some (byteV x)

theorem cellsAt_below {w w' : World} {g : Nat} {l : List UInt8} (h : CellsAt w g l) (hb : Below w.heap.size w w') : CellsAt w' g l := fun j x hj => (hb.cell (block_of_cell (h j x hj))).trans (h j x hj)

theorem cellsAt_take {w : World} {g : Nat} {l : List UInt8} (h : CellsAt w g l) (k : Nat) : CellsAt w g (l.take k) := fun j x hj => by
  rw [List.getElem?_take] at hj
  by_cases c : j < k
  · rw [if_pos c] at hj
    exact h j x hj
  · rw [if_neg c] at hj
    cases hj

theorem cellsAt_lit (w : World) (l : List UInt8) (cs : Array Value) (e : TypeId) (h : cs.toList = l.map byteV) : CellsAt (w.alloc (.cells cs e)) w.heap.size l := fun j x hj => by
  rw [alloc_cell, ← Array.getElem?_toList, h, List.getElem?_map, hj]
  rfl

theorem run_convert_at {P : Program} {w : World} (src e dst : TypeId) (hs : P.underlying src = some (.slice e)) (he : P.underlying e = some (.int .u8)) (hd : P.underlying dst = some .string) {g n cap : Nat} {l : List UInt8}
    (hb : CellsAt w g l) (hn : n = l.length) : (convert src dst (.slice (some ⟨g, 0, none⟩) n cap)).run P w = .ok (.string ⟨l.toArray⟩) w := by
  subst hn
  rw [run_convert_bytes_arg w src e hs he g 0 l.length cap (l.map fun c => (c.toNat : Int)) (by simp) (fun i hi => ?_) dst hd]
  · congr 2
    unfold strOfNums
    congr 2
    rw [List.map_map]
    conv => rhs; rw [← List.map_id l]
    apply List.map_congr_left
    intro c _
    simp
  · rw [Nat.zero_add, hb i l[i] (List.getElem?_eq_getElem hi)]
    simp [List.getD, List.getElem?_eq_getElem hi, byteV]

theorem or_hi (i hi y : Nat) (h6 : i ≤ 8) (hh : hi % 2 ^ i = 0) (hb : hi < 256) (hy : y < 2 ^ i) : bits .or .i64 (hi : Int) (y : Int) = ((hi + y : Nat) : Int) := by
  have h63 : (2 : Int) ^ 63 = 9223372036854775808 := by decide
  have h8 : 2 ^ i ≤ 2 ^ 8 := Nat.pow_le_pow_right (by decide) h6
  have h8' : (2 : Nat) ^ 8 = 256 := by decide
  have c1 : (hi : Int) % 2 ^ i = 0 := by exact_mod_cast hh
  have c2 : (y : Int) < 2 ^ i := by exact_mod_cast hy
  rw [bits_join .i64 63 (by decide) wraps_i64 i (hi : Int) (y : Int) (by omega) c1 (by rw [h63]; omega) (by omega) c2 (by rw [h63]; omega)]
  omega

theorem lead_none {l : List UInt8} (h : l ≠ []) (hr : runeL l = 0) : Lib.validD l = false := by rw [valid_step h, if_pos hr]

theorem lead_all {l : List UInt8} (h : l ≠ []) (hr : runeL l = l.length) : Lib.validD l = true := by
  have hl : 0 < l.length := List.length_pos_iff.2 h
  rw [valid_step h, hr, if_neg (by omega), List.drop_length]
  rfl

theorem pv1 (c : UInt8) (h : c.toNat < 128) : Lib.validD [c] = true := lead_all (by simp) (rune_one (l := [c]) h)

theorem pv2 (c b : UInt8) (h : 194 ≤ c.toNat) (h2 : c.toNat < 224) (hb : contN b.toNat) : Lib.validD [c, b] = true := by
  apply lead_all (by simp)
  rw [rune_two (l := [c, b]) h h2]
  simp only [List.getD_cons_zero, List.getD_cons_succ, List.length_cons, List.length_nil, uL]
  unfold contN at hb
  rw [if_neg (by omega), if_neg (by omega)]

theorem pv3 (c b d : UInt8) (u : Nat) (h : 224 ≤ c.toNat) (h2 : c.toNat < 240) (hb : contN b.toNat) (hd : contN d.toNat) (hu : u = ((c.toNat % 16) * 64 + b.toNat % 64) * 64 + d.toNat % 64) : Lib.validD [c, b, d] = decide (¬ badU 2048 u) := by
  have hr := rune_three (l := [c, b, d]) h h2
  simp only [List.getD_cons_zero, List.getD_cons_succ, List.length_cons, List.length_nil, uL] at hr
  unfold contN at hb hd
  rw [if_neg (by omega), ← hu] at hr
  by_cases hbad : badU 2048 u
  · rw [if_pos hbad] at hr
    rw [lead_none (by simp) hr, decide_eq_false (fun h => h hbad)]
  · rw [if_neg hbad] at hr
    rw [lead_all (by simp) hr, decide_eq_true hbad]

theorem pv4 (c b d f : UInt8) (u : Nat) (h : 240 ≤ c.toNat) (h2 : c.toNat < 245) (hb : contN b.toNat) (hd : contN d.toNat) (hf : contN f.toNat) (hu : u = (((c.toNat % 8) * 64 + b.toNat % 64) * 64 + d.toNat % 64) * 64 + f.toNat % 64) : Lib.validD [c, b, d, f] = decide (¬ badU 65536 u) := by
  have hr := rune_four (l := [c, b, d, f]) h h2
  simp only [List.getD_cons_zero, List.getD_cons_succ, List.length_cons, List.length_nil, uL] at hr
  unfold contN at hb hd hf
  rw [if_neg (by omega), ← hu] at hr
  by_cases hbad : badU 65536 u
  · rw [if_pos hbad] at hr
    rw [lead_none (by simp) hr, decide_eq_false (fun h => h hbad)]
  · rw [if_neg hbad] at hr
    rw [lead_all (by simp) hr, decide_eq_true hbad]

theorem pv_none (c : UInt8) (r : List UInt8) (h : 245 ≤ c.toNat) : Lib.validD (c :: r) = false := lead_none (by simp) (rune_none (l := c :: r) (show 128 ≤ c.toNat by omega) (.inr h))

/-- Fewer bytes than the first one asks for. -/
theorem pv_short (c : UInt8) (r : List UInt8) (k : Nat) (h0 : 0 < k) (h : 194 ≤ c.toNat) (hk : (194 ≤ c.toNat ∧ c.toNat < 224 ∧ k < 2) ∨ (224 ≤ c.toNat ∧ c.toNat < 240 ∧ k < 3) ∨ (240 ≤ c.toNat ∧ k < 4)) : Lib.validD ((c :: r).take k) = false := by
  obtain ⟨k', rfl⟩ : ∃ k', k = k' + 1 := ⟨k - 1, by omega⟩
  rw [List.take_succ_cons]
  have hlen : (c :: r.take k').length ≤ k' + 1 := by rw [List.length_cons, List.length_take]; omega
  by_cases hc : 245 ≤ c.toNat
  · exact pv_none c _ hc
  · apply lead_none (by simp)
    rcases hk with ⟨a, b, d⟩ | ⟨a, b, d⟩ | ⟨a, d⟩
    · rw [rune_two (l := c :: r.take k') a b, if_pos (.inl (by omega))]
    · rw [rune_three (l := c :: r.take k') a b, if_pos (.inl (by omega))]
    · rw [rune_four (l := c :: r.take k') a (show c.toNat < 245 by omega), if_pos (.inl (by omega))]

end Go.Proofs.YtommhbfdkboeiaaDoor
