/- Contracts: rows of bytes: an append of a whole slice, two rows held against each other, rows joined. -/
import Derived.Laws.AppendOwnNone
import Derived.Deep.RegionHeld3
import Derived.BigRegion
import Derived.Test.YtneomfhlkdpnjaaProg
import Derived.Test.YtneomfhlkdpnjaaKit
import Derived.Test.YtneomfhlkdpnjaaRow
import Derived.Test.YtneomfhlkdpnjaaCod7
import Derived.Test.YtneomfhlkdpnjaaCod8
namespace Go.Proofs.Ytneomfhlkdpnjaa
open Go.RowKit Go.Proofs

/-- A slice of bytes below block B: nil, or so many with an address. -/
def ByteSl (w : World) (B : Nat) (v : Value) (l : List UInt8) : Prop :=
  (v = .slice none 0 0 ∧ l = []) ∨ ∃ ad c, v = .slice (some ad) l.length c ∧ l.length ≤ c ∧ Lies w B (some ad) l

theorem ByteSl.keep {w w' : World} {B B' : Nat} {v : Value} {l : List UInt8} (h : ByteSl w B v l) (hb : Below B' w w') (hB : B ≤ B') : ByteSl w' B v l := by
  rcases h with h | ⟨ad, c, hv, hc, hl⟩
  · exact .inl h
  · exact .inr ⟨ad, c, hv, hc, hl.keep hb hB⟩

/-- What a slice of the call's own holds. -/
theorem own_sl {w : World} {base : Nat} {e : TypeId} {v : Value} {n : Nat} {l : List UInt8} (h : w.ownsRow base e 1 v n (l.map byteV)) : ByteSl w w.heap.size v l := by
  have hl : l.length = n := by have := h.1; simpa using this
  rcases h.2 with ⟨hv, hn⟩ | ⟨g, cap, cur, hv, _, hh, hnc, _⟩
  · exact .inl ⟨hv, List.eq_nil_of_length_eq_zero (by omega)⟩
  · subst hv
    refine .inr ⟨_, cap, by rw [hl], by omega, .inr ⟨g, 0, rfl, ?_, fun j x hj => ?_⟩⟩
    · rcases Nat.lt_or_ge g w.heap.size with hg | hg
      · exact hg
      · rw [Array.getElem?_eq_none hg] at hh; cases hh
    · have hjl : j < l.length := (List.getElem?_eq_some_iff.1 hj).1
      rw [Nat.zero_add, h.cellAt j (by omega), List.getElem?_map, hj]
      rfl

theorem bytes_same (l : List UInt8) (v1 v2 : Value) (w : World) (hl : l.length < 9223372036854775807) (h1 : SliceAt w v1 (l.map byteV)) (h2 : SliceAt w v2 (l.map byteV)) :
    Calls Try.prog 49 #[v1, v2] w fun e w' => e = .returned (.bool true) ∧ Drew w w' := by
  obtain ⟨a1, c1, rfl, k1⟩ := h1
  obtain ⟨a2, c2, rfl, k2⟩ := h2
  rw [List.length_map]
  obtain ⟨n, hn⟩ : ∃ n, n = l.length := ⟨_, rfl⟩
  rw [← hn] at hl ⊢
  have K1 := Lib.hid k1
  have K2 := Lib.hid k2
  have HN := Lib.hid hn
  have hnn : ((n : Int) != (n : Int)) = false := by simp
  clear k1 k2 hn
  go_enter Try.func49, Try.ntmps49
  go_wp2
  go_loopw [5] (fun i wr => ∃ k : Nat, k ≤ n ∧ i = .int .i64 k ∧ Hid (Drew w wr)) (fun i _ => n - (intOf i).toNat)
  case atStart => exact ⟨0, by omega, rfl, Lib.hid ⟨0, rfl⟩⟩
  case round =>
    obtain ⟨k, hk, rfl, HD⟩ := hrel
    obtain ⟨w1, hw1⟩ : ∃ w1 : World, w1 = wr := ⟨_, rfl⟩
    subst hw1
    by_cases hlt : k < n
    · obtain ⟨x, hx⟩ : ∃ x, l[k]? = some x := ⟨_, List.getElem?_eq_getElem (by rw [← HN.out]; exact hlt)⟩
      have hmx : (l.map byteV)[k]? = some (.int .u8 (x.toNat : Int)) := by rw [List.getElem?_map, hx]; rfl
      have hne : l.map byteV ≠ [] := by intro e; rw [e] at hmx; simp at hmx
      obtain ⟨b1, o1, rfl, hb1⟩ := K1.out.resolve_left hne
      obtain ⟨b2, o2, rfl, hb2⟩ := K2.out.resolve_left hne
      have hcell : ∀ q, w1.cell? q = w.cell? q := by obtain ⟨d, hd⟩ := HD.out; intro q; rw [hd]; rfl
      have d1 : w1.cell? ⟨b1, o1 + k, none⟩ = some (.int .u8 (x.toNat : Int)) := (hcell _).trans (hb1 k _ hmx)
      have d2 : w1.cell? ⟨b2, o2 + k, none⟩ = some (.int .u8 (x.toNat : Int)) := (hcell _).trans (hb2 k _ hmx)
      have hy : (k : Int) < (n : Int) := by omega
      have hq : ((x.toNat : Int) != (x.toNat : Int)) = false := by simp
      have HKL := Lib.hid hlt
      clear hx hmx hne hb1 hb2 hcell hk
      go_wp2_with fail
      go_quiet (fail)
      go_wp2
      go_roundw
      case rel => exact ⟨k + 1, by have := HKL.out; omega, by go_num, Lib.hid (HD.out.more _)⟩
      case measure => have := HKL.out; simp [intOf]; omega
    · go_wp2
      go_ret
      exact ⟨rfl, HD.out⟩

end Go.Proofs.Ytneomfhlkdpnjaa
