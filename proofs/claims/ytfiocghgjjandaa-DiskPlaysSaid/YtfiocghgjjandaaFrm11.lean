/- Contracts: rows held against each other, a number made small, what the document fixes. -/
import Derived.BigRegion
import Derived.Deep.RegionHeld3
import Derived.Test.YtfiocghgjjandaaProg
import Derived.Test.YtfiocghgjjandaaKit
import Derived.Test.YtfiocghgjjandaaRow
import Derived.Test.YtfiocghgjjandaaCod7
namespace Go.Proofs.Ytfiocghgjjandaa
open Go.RowKit Go.Proofs

theorem list_ne_at {l m : List UInt8} {k : Nat} {x y : UInt8} (hx : l[k]? = some x) (hy : m[k]? = some y) (h : x ≠ y) : (l == m) = false := by
  rw [beq_eq_false_iff_ne]
  rintro rfl
  rw [hx] at hy
  exact h (Option.some.inj hy)

/-- Two rows of bytes, whether they are the same. -/
theorem bytes_any (l m : List UInt8) (v1 v2 : Value) (w : World) (hl : l.length < 9223372036854775807) (hm : m.length < 9223372036854775807) (h1 : SliceAt w v1 (l.map byteV)) (h2 : SliceAt w v2 (m.map byteV)) :
    Calls Try.prog 33 #[v1, v2] w fun e w' => e = .returned (.bool (l == m)) ∧ Drew w w' := by
  obtain ⟨a1, c1, rfl, k1⟩ := h1
  obtain ⟨a2, c2, rfl, k2⟩ := h2
  rw [List.length_map, List.length_map]
  obtain ⟨n, hn⟩ : ∃ n, n = l.length := ⟨_, rfl⟩
  obtain ⟨n2, hn2⟩ : ∃ n, n = m.length := ⟨_, rfl⟩
  rw [← hn] at hl ⊢
  rw [← hn2] at hm ⊢
  have K1 := Lib.hid k1
  have K2 := Lib.hid k2
  have HN := Lib.hid hn
  have HN2 := Lib.hid hn2
  clear k1 k2 hn hn2
  by_cases hlen : n = n2
  case neg =>
    have hnn : ((n : Int) != (n2 : Int)) = true := by rw [bne_iff_ne]; omega
    have HF : Hid ((l == m) = false) := Lib.hid (by
      rw [beq_eq_false_iff_ne]
      rintro rfl
      exact hlen (HN.out.trans HN2.out.symm))
    clear hlen
    go_enter Try.func33, Try.ntmps33
    go_wp2
    go_ret
    exact ⟨by rw [HF.out]; rfl, ⟨0, rfl⟩⟩
  subst hlen
  have hnn : ((n : Int) != (n : Int)) = false := by simp
  go_enter Try.func33, Try.ntmps33
  go_wp2
  go_loopw [5] (fun i wr => ∃ k : Nat, k ≤ n ∧ i = .int .i64 k ∧ Hid (l.take k = m.take k) ∧ Hid (Drew w wr)) (fun i _ => n - (intOf i).toNat)
  case atStart => exact ⟨0, by omega, rfl, Lib.hid (by simp), Lib.hid ⟨0, rfl⟩⟩
  case round =>
    obtain ⟨k, hk, rfl, HE, HD⟩ := hrel
    obtain ⟨w1, hw1⟩ : ∃ w1 : World, w1 = wr := ⟨_, rfl⟩
    subst hw1
    by_cases hlt : k < n
    · obtain ⟨x, hx⟩ : ∃ x, l[k]? = some x := ⟨_, List.getElem?_eq_getElem (by rw [← HN.out]; exact hlt)⟩
      obtain ⟨y, hy⟩ : ∃ y, m[k]? = some y := ⟨_, List.getElem?_eq_getElem (by rw [← HN2.out]; exact hlt)⟩
      have hmx : (l.map byteV)[k]? = some (.int .u8 (x.toNat : Int)) := by rw [List.getElem?_map, hx]; rfl
      have hmy : (m.map byteV)[k]? = some (.int .u8 (y.toNat : Int)) := by rw [List.getElem?_map, hy]; rfl
      have hne : l.map byteV ≠ [] := by intro e; rw [e] at hmx; simp at hmx
      have hne2 : m.map byteV ≠ [] := by intro e; rw [e] at hmy; simp at hmy
      obtain ⟨b1, o1, rfl, hb1⟩ := K1.out.resolve_left hne
      obtain ⟨b2, o2, rfl, hb2⟩ := K2.out.resolve_left hne2
      have hcell : ∀ q, w1.cell? q = w.cell? q := by obtain ⟨d, hd⟩ := HD.out; intro q; rw [hd]; rfl
      have d1 : w1.cell? ⟨b1, o1 + k, none⟩ = some (.int .u8 (x.toNat : Int)) := (hcell _).trans (hb1 k _ hmx)
      have d2 : w1.cell? ⟨b2, o2 + k, none⟩ = some (.int .u8 (y.toNat : Int)) := (hcell _).trans (hb2 k _ hmy)
      have hyk : (k : Int) < (n : Int) := by omega
      have HKL := Lib.hid hlt
      by_cases hxy : x = y
      · have hq : ((x.toNat : Int) != (y.toNat : Int)) = false := by rw [hxy]; simp
        have HE2 : Hid (l.take (k + 1) = m.take (k + 1)) := Lib.hid (by rw [take_succ_of hx, take_succ_of hy, HE.out, hxy])
        clear hx hy hmx hmy hne hne2 hb1 hb2 hcell hk hxy
        go_wp2_with fail
        go_quiet (fail)
        go_wp2
        go_roundw
        case rel => exact ⟨k + 1, by have := HKL.out; omega, by go_num, HE2, Lib.hid (Drew.more HD.out _)⟩
        case measure => have := HKL.out; simp [intOf]; omega
      · have hq : ((x.toNat : Int) != (y.toNat : Int)) = true := by
          rw [bne_iff_ne]
          intro e
          exact hxy (UInt8.toNat_inj.1 (by omega))
        have HF := Lib.hid (list_ne_at hx hy hxy)
        clear hx hy hmx hmy hne hne2 hb1 hb2 hcell hk hxy
        go_wp2_with fail
        go_quiet (fail)
        go_wp2
        go_ret
        exact ⟨by rw [HF.out]; rfl, Drew.more HD.out _⟩
    · have HF : Hid ((l == m) = true) := Lib.hid (by
        have h := HE.out
        rw [List.take_of_length_le (by rw [← HN.out]; omega), List.take_of_length_le (by rw [← HN2.out]; omega)] at h
        rw [h]; simp)
      have hyk : ¬ (k : Int) < (n : Int) := by omega
      clear hlt hk
      go_wp2
      go_ret
      exact ⟨by rw [HF.out]; rfl, HD.out⟩

end Go.Proofs.Ytfiocghgjjandaa
