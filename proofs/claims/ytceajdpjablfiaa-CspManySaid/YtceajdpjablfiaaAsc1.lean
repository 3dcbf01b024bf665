/- Contracts: bytes of ASCII, membership in lists. -/
import Derived.Test.YtceajdpjablfiaaProg
import Derived.Test.YtceajdpjablfiaaKit
namespace Go.Proofs.Ytceajdpjablfiaa
open Go.RowKit Go.Proofs

/-- Is the byte among those? -/
def hasB (l : List UInt8) (c : UInt8) : Bool := l.contains c

theorem hasB_eq (l : List UInt8) (c : UInt8) : hasB l c = l.contains c := rfl

theorem mem_take_snoc {l : List UInt8} {k : Nat} {d c : UInt8} (hd : l[k]? = some d) (hno : c ∉ l.take k) (hne : d.toNat ≠ c.toNat) : c ∉ l.take (k + 1) := by
  obtain ⟨hk, rfl⟩ := List.getElem?_eq_some_iff.1 hd
  rw [List.take_succ_eq_append_getElem hk]
  intro h
  rcases List.mem_append.1 h with h | h
  · exact hno h
  · exact hne (by rw [List.mem_singleton.1 h])

/-- slices.Index of bytes. -/
theorem idx_byte_any (c : UInt8) (l : List UInt8) (v : Value) (w : World) (hl : l.length ≤ 1073741824) (hv : SliceAt w v (l.map byteV)) :
    Calls Try.prog 45 #[v, .int .u8 c.toNat] w fun e w' => (∃ i : Int, e = .returned (.int .i64 i) ∧ (0 ≤ i ↔ c ∈ l)) ∧ w' = w := by
  by_cases hne : l = []
  · subst hne
    obtain ⟨a, cp, rfl⟩ := hv.empty
    go_enter Try.func45, Try.ntmps45
    go_wp2
    refine wp_loop_rounds 1 ?_
    rw [rounds_succ]
    go_wp2
    go_ret
    exact ⟨⟨-1, rfl, by simp⟩, rfl⟩
  · obtain ⟨b, off, cp, rfl, hc⟩ := hv.at (by simpa using hne)
    rw [List.length_map]
    have HC := Lib.hid hc
    clear hc hv
    go_enter Try.func45, Try.ntmps45
    go_wp2
    go_loop [8] (fun i => ∃ k : Nat, k ≤ l.length ∧ i = .int .i64 k ∧ c ∉ l.take k) (fun i => l.length - (intOf i).toNat)
    case atStart => exact ⟨0, Nat.zero_le _, rfl, by simp⟩
    case round =>
      obtain ⟨k, hk, rfl, hno⟩ := hrel
      have HN := Lib.hid hno
      clear hno
      by_cases hlt : k < l.length
      · obtain ⟨d, hd⟩ : ∃ d, l[k]? = some d := ⟨_, List.getElem?_eq_getElem hlt⟩
        have hcell := HC.out k (.int .u8 d.toNat) (by rw [List.getElem?_map, hd]; rfl)
        by_cases hq : d.toNat = c.toNat
        · have hq0 : ((c.toNat : Int) == (d.toNat : Int)) = true := beq_iff_eq.2 (by omega)
          have hmem : c ∈ l := by
            have : d = c := UInt8.toNat_inj.1 hq
            rw [← this]
            exact List.mem_of_getElem? hd
          have HF := Lib.hid hmem
          clear hq hd hmem
          go_wp2
          go_ret
          exact ⟨⟨k, rfl, by simp [HF.out]⟩, rfl⟩
        · have hq0 : ((c.toNat : Int) == (d.toNat : Int)) = false := beq_eq_false_iff_ne.2 (by omega)
          have HF := Lib.hid (mem_take_snoc hd HN.out hq)
          clear hq hd
          go_wp2
          go_round
          case rel => exact ⟨k + 1, by omega, by go_num, HF.out⟩
          case measure => simp [intOf]; omega
      · have hfin := HN.out
        rw [List.take_of_length_le (by omega)] at hfin
        have HF := Lib.hid hfin
        clear hfin
        go_wp2
        go_ret
        exact ⟨⟨-1, rfl, by simp [HF.out]⟩, rfl⟩

theorem contains_byte_any (c : UInt8) (l : List UInt8) (v : Value) (w : World) (hl : l.length ≤ 1073741824) (hv : SliceAt w v (l.map byteV)) :
    Calls Try.prog 42 #[v, .int .u8 c.toNat] w fun e w' => e = .returned (.bool (hasB l c)) ∧ w' = w := by
  go_enter Try.func42, Try.ntmps42
  go_wp2_with fail
  refine (idx_byte_any c l v w hl hv).mono ?_
  rintro e w' ⟨⟨i, rfl, hi⟩, rfl⟩
  have HI := Lib.hid hi
  clear hi
  go_wp2
  go_ret
  refine ⟨ret_bool ?_, rfl⟩
  rw [Bool.eq_iff_iff, hasB_eq]
  simp [HI.out]

theorem oneOf_byte_any (c : UInt8) (l : List UInt8) (v : Value) (w : World) (hl : l.length ≤ 1073741824) (hv : SliceAt w v (l.map byteV)) :
    Calls Try.prog 37 #[.int .u8 c.toNat, v] w fun e w' => e = .returned (.bool (hasB l c)) ∧ w' = w := by
  go_enter Try.func37, Try.ntmps37
  go_wp2_with fail
  refine (contains_byte_any c l v w hl hv).mono ?_
  rintro e w' ⟨rfl, rfl⟩
  go_wp2
  go_ret
  exact ⟨rfl, rfl⟩

end Go.Proofs.Ytceajdpjablfiaa
