/- Digits read back: no dump. -/
import Derived.Test.YtcpioladmcidcaaKit
import Derived.Test.YtcpioladmcidcaaTxt0
import Derived.Test.YtcpioladmcidcaaTxt2
namespace Go.Proofs.Ytcpioladmcidcaa
open Go.RowKit Go.Proofs

theorem hexS_cons (c : UInt8) (l : List UInt8) : hexS (c :: l) = hexD (c.toNat / 16) :: hexD (c.toNat % 16) :: hexS l := rfl

theorem hexS_at : ∀ (l : List UInt8) (i : Nat) (c : UInt8), l[i]? = some c → (hexS l)[2 * i]? = some (hexD (c.toNat / 16)) ∧ (hexS l)[2 * i + 1]? = some (hexD (c.toNat % 16))
  | [], i, c, h => by simp at h
  | d :: l, 0, c, h => by
    cases h
    rw [hexS_cons]
    exact ⟨rfl, rfl⟩
  | d :: l, i + 1, c, h => by
    rw [hexS_cons]
    have ih := hexS_at l i c (by simpa using h)
    rw [show 2 * (i + 1) = 2 * i + 1 + 1 from by omega]
    simpa using ih

theorem ix_hex {q : Nat} (h : q < 16) : ixD (hexD q) = (q : Int) := (dig_ix h (hexD q)).1 rfl

theorem par_hex {l : List UInt8} (hl : l.length = 32) : parOk (hexS l) = true ∧ parL (hexS l) 32 = l := by
  refine ⟨parOk_yes (by rw [hexS_len, hl]) (fun j c hj hc => ?_), ?_⟩
  · obtain ⟨x, hx⟩ : ∃ x, l[j / 2]? = some x := ⟨_, List.getElem?_eq_getElem (by omega)⟩
    obtain ⟨h1, h2⟩ := hexS_at l (j / 2) x hx
    have hx256 := x.toNat_lt
    rcases Nat.mod_two_eq_zero_or_one j with h | h
    · rw [show 2 * (j / 2) = j from by omega, hc] at h1
      cases h1
      rw [ix_hex (by omega)]
      omega
    · rw [show 2 * (j / 2) + 1 = j from by omega, hc] at h2
      cases h2
      rw [ix_hex (by omega)]
      omega
  · apply List.ext_getElem?
    intro j
    rcases Nat.lt_or_ge j 32 with hj | hj
    · obtain ⟨x, hx⟩ : ∃ x, l[j]? = some x := ⟨_, List.getElem?_eq_getElem (by omega)⟩
      obtain ⟨h1, h2⟩ := hexS_at l j x hx
      have hx256 := x.toNat_lt
      unfold parL
      rw [List.getElem?_map, List.getElem?_range hj, hx]
      simp only [Option.map_some, List.getD_eq_getElem?_getD, h1, h2, Option.getD_some]
      congr 1
      unfold parB dV
      rw [ix_hex (by omega), ix_hex (by omega), Int.toNat_natCast, Int.toNat_natCast]
      apply UInt8.toNat_inj.1
      rw [UInt8.toNat_ofNat']
      omega
    · rw [List.getElem?_eq_none (by simpa [parL] using hj), List.getElem?_eq_none (by omega)]

theorem parV_hex {l : List UInt8} (hl : l.length = 32) : parV (hexS l) = .tuple #[.agg (l.map byteV).toArray, .bool true] := by
  obtain ⟨h1, h2⟩ := par_hex hl
  rw [parV_yes h1, h2]

theorem parR_len (s : List UInt8) : (parR s).length = 32 := by
  unfold parR
  split
  · simp [parL]
  · simp

/-- The sum's bytes: those of a text, and noughts. -/
def pad32 (l : List UInt8) (k : Nat) : List UInt8 := l.take k ++ List.replicate (32 - k) 0

theorem pad32_len {l : List UInt8} {k : Nat} (hk : k ≤ 32) (hl : k ≤ l.length) : (pad32 l k).length = 32 := by
  unfold pad32
  rw [List.length_append, List.length_take, List.length_replicate]
  omega

theorem pad32_set {l : List UInt8} {k : Nat} {x : UInt8} (hk : k < 32) (hx : l[k]? = some x) : ((pad32 l k).map byteV).set k (byteV x) = (pad32 l (k + 1)).map byteV := by
  have hlt := (List.getElem?_eq_some_iff.1 hx).1
  unfold pad32
  rw [← List.map_set, show 32 - k = (32 - (k + 1)) + 1 from by omega, List.replicate_succ, List.set_append_right _ _ (by rw [List.length_take]; omega), List.length_take, show k - min k l.length = 0 from by omega, take_succ_of hx]
  simp

theorem pad32_zero {l : List UInt8} {k : Nat} (hk : k < 32) (hl : k ≤ l.length) : (pad32 l k)[k]? = some 0 := by
  unfold pad32
  rw [List.getElem?_append_right (by rw [List.length_take]; omega), List.getElem?_replicate, if_pos (by rw [List.length_take]; omega)]

end Go.Proofs.Ytcpioladmcidcaa
