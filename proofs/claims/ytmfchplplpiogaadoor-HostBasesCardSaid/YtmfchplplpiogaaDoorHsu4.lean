/- Addresses that are written in any base, in plain words: each is read as itself. -/
import Derived.Test.YtmfchplplpiogaaDoorKit
import Derived.Test.YtmfchplplpiogaaDoorPlain
import Derived.Test.YtmfchplplpiogaaDoorU32
import Derived.Test.YtmfchplplpiogaaDoorPct0
import Derived.Test.YtmfchplplpiogaaDoorHst0
import Derived.Test.YtmfchplplpiogaaDoorHst1
import Derived.Test.YtmfchplplpiogaaDoorHst7
import Derived.Test.YtmfchplplpiogaaDoorHsu3
namespace Go.Proofs.YtmfchplplpiogaaDoor
open Go.RowKit Go.Proofs

theorem wr_dot {n : Nat} {p : List UInt8} (h : WrP n p) : (46 : UInt8) ∉ p := fun hc => (h.2.2.1 46 hc).2.1 rfl

theorem wr_last {ps : List (List UInt8)} (h : ∀ p ∈ ps, ∃ n, WrP n p) : ps.getLast? ≠ some [] := fun he => by
  obtain ⟨n, hn⟩ := h [] (List.mem_of_getLast? he)
  exact hn.2.2.2.2 rfl

theorem wr_one {n : Nat} (hn : n < 4294967296) {p : List UInt8} (h : WrP n p) : numberP p = some n := by
  have hp : partsL p = [p] := parts_join [p] (by simp) (fun q hq => by simp at hq; rw [hq]; exact wr_dot h) (wr_last (fun q hq => by simp at hq; exact ⟨n, by rw [hq]; exact h⟩))
  unfold numberP addrP
  rw [hp, if_pos (by simp), sumP_one, h.1]
  simp only
  rw [if_pos (by omega)]

theorem wr_two {n : Nat} (hn : n < 4294967296) {p q : List UInt8} (hp : WrP (n / 16777216) p) (hq : WrP (n % 16777216) q) : numberP (p ++ 46 :: q) = some n := by
  have h0 : partsL (joinD [p, q]) = [p, q] := parts_join [p, q] (by simp) (fun x hx => by
    simp at hx
    rcases hx with rfl | rfl
    · exact wr_dot hp
    · exact wr_dot hq) (wr_last (fun x hx => by
    simp at hx
    rcases hx with rfl | rfl
    · exact ⟨_, hp⟩
    · exact ⟨_, hq⟩))
  have h1 : partsL (p ++ 46 :: q) = [p, q] := h0
  unfold numberP addrP
  rw [h1, if_pos (by simp), sumP_more, hp.1]
  simp only
  rw [if_pos (by omega), sumP_one, hq.1]
  simp only
  rw [if_pos (by omega)]
  simp only [Option.map_some, Option.some.injEq]
  omega

def fourT (p q r s : List UInt8) : List UInt8 := joinD [p, q, r, s] ++ [46]

theorem fourT_parts {a b c d : Nat} {p q r s : List UInt8} (hp : WrP a p) (hq : WrP b q) (hr : WrP c r) (hs : WrP d s) : partsL (fourT p q r s) = [p, q, r, s] :=
  parts_join_dot [p, q, r, s] (by simp) (fun x hx => by
    simp at hx
    rcases hx with rfl | rfl | rfl | rfl
    · exact wr_dot hp
    · exact wr_dot hq
    · exact wr_dot hr
    · exact wr_dot hs)

theorem wr_four {n : Nat} (hn : n < 4294967296) {p q r s : List UInt8} (hp : WrP (n / 16777216 % 256) p) (hq : WrP (n / 65536 % 256) q) (hr : WrP (n / 256 % 256) r) (hs : WrP (n % 256) s) : numberP (fourT p q r s) = some n := by
  unfold numberP addrP
  rw [fourT_parts hp hq hr hs, if_pos (by simp), sumP_more, hp.1]
  simp only
  rw [if_pos (by omega), sumP_more, hq.1]
  simp only
  rw [if_pos (by omega), sumP_more, hr.1]
  simp only
  rw [if_pos (by omega), sumP_one, hs.1]
  simp only
  rw [if_pos (by omega)]
  simp only [Option.map_some, Option.some.injEq]
  omega

theorem fourT_byte {a b c d : Nat} {p q r s : List UInt8} (hp : WrP a p) (hq : WrP b q) (hr : WrP c r) (hs : WrP d s) {x : UInt8} (hx : x ∈ fourT p q r s) : forbB (lowB x) = false ∧ x ≠ 37 := by
  have h46 : forbB (lowB 46) = false ∧ (46 : UInt8) ≠ 37 := by decide
  unfold fourT at hx
  rcases List.mem_append.1 hx with hx | hx
  · rcases join_mem _ _ hx with rfl | ⟨y, hy, hxy⟩
    · exact h46
    · simp at hy
      rcases hy with rfl | rfl | rfl | rfl
      · exact ⟨(hp.2.2.1 x hxy).1, (hp.2.2.1 x hxy).2.2⟩
      · exact ⟨(hq.2.2.1 x hxy).1, (hq.2.2.1 x hxy).2.2⟩
      · exact ⟨(hr.2.2.1 x hxy).1, (hr.2.2.1 x hxy).2.2⟩
      · exact ⟨(hs.2.2.1 x hxy).1, (hs.2.2.1 x hxy).2.2⟩
  · simp at hx
    rw [hx]
    exact h46

theorem wr_host {n : Nat} (hn : n < 4294967296) {p q r s : List UInt8} (hp : WrP (n / 16777216 % 256) p) (hq : WrP (n / 65536 % 256) q) (hr : WrP (n / 256 % 256) r) (hs : WrP (n % 256) s) : hostP (fourT p q r s) = some (textL n) := by
  have hdec : decL (fourT p q r s) = fourT p q r s := dec_no _ (fun h => (fourT_byte hp hq hr hs h).2 rfl)
  have hcl : anyF (lowL (fourT p q r s)) = false := by
    unfold anyF
    rw [List.any_eq_false]
    intro c hc
    obtain ⟨x, hx, rfl⟩ := List.mem_map.1 hc
    rw [(fourT_byte hp hq hr hs hx).1]
    decide
  have hne : lowL (fourT p q r s) ≠ [] := by
    intro h
    have := congrArg List.length h
    rw [low_length] at this
    unfold fourT at this
    simp at this
  have hnu : numericP ((partsL (lowL (fourT p q r s))).getLastD []) = true := by
    rw [parts_low, fourT_parts hp hq hr hs]
    exact hs.2.2.2.1
  rw [host_eq, hdec, hostD_num hne hcl hnu, number_low, wr_four hn hp hq hr hs]
  rfl

theorem and24 (a : Nat) (ha : a < 4294967296) : bits .and .u32 (a : Int) 16777215 = ((a % 16777216 : Nat) : Int) := by
  have h := iw_and (UInt32.ofNat a) 16777215
  unfold iw at h
  rw [UInt32.toNat_and, UInt32.toNat_ofNat_of_lt' ha] at h
  have e : (UInt32.toNat 16777215) = 2 ^ 24 - 1 := rfl
  rw [e, Nat.and_two_pow_sub_one_eq_mod] at h
  exact h

end Go.Proofs.YtmfchplplpiogaaDoor
