/- Contracts: membership in a list of texts; the sum of lengths; what the document fixes. -/
import Derived.Test.YtlhdafinfgdlkaaGreatDoorProg
import Derived.Test.YtlhdafinfgdlkaaGreatDoorKit
namespace Go.Proofs.YtlhdafinfgdlkaaGreatDoor
open Go.RowKit Go.Proofs
set_option maxRecDepth 100000

/-- The sum of lengths, as far as it goes: if it is at most the bound, so are the list's length and each text's. -/
theorem total_any (v : Value) (zs : List ByteArray) (m : Int) (w : World) (hm : 0 ≤ m ∧ m ≤ 1073741824) (hl : zs.length ≤ 281474976710656) (hz : ∀ z ∈ zs, z.size ≤ 281474976710656) (hv : SliceAt w v (zs.map strV)) :
    Calls Tryz.prog 21 #[v, .int .i64 m] w fun e w' => (∃ r : Int, e = .returned (.int .i64 r) ∧ (zs.length : Int) ≤ r ∧ r ≤ 1125899906842624) ∧ w' = w := by
  by_cases hne : zs = []
  · subst hne
    obtain ⟨a, cp, rfl⟩ := hv.empty
    go_enter Tryz.func21, Tryz.ntmps21
    go_wp2
    refine wp_loop_rounds 1 ?_
    rw [rounds_succ]
    go_wp2
    go_ret
    exact ⟨⟨0, rfl, by simp, by decide⟩, rfl⟩
  · obtain ⟨b, off, cp, rfl, hc⟩ := hv.at (by simpa using hne)
    rw [List.length_map]
    have HC := Lib.hid hc
    have HZ := Lib.hid hz
    clear hc hv hz
    go_enter Tryz.func21, Tryz.ntmps21
    go_wp2
    go_loop [5, 6] (fun n i => ∃ (k : Nat) (r : Int), k ≤ zs.length ∧ i = .int .i64 k ∧ n = .int .i64 r ∧ (zs.length : Int) ≤ r ∧ r ≤ 1125899906842624) (fun _ i => zs.length - (intOf i).toNat)
    case atStart => exact ⟨0, zs.length, Nat.zero_le _, rfl, rfl, Int.le_refl _, by omega⟩
    case round =>
      obtain ⟨k, r, hk, rfl, rfl, hr1, hr2⟩ := hrel
      by_cases hlt : k < zs.length
      · obtain ⟨d, hd⟩ : ∃ d, zs[k]? = some d := ⟨_, List.getElem?_eq_getElem hlt⟩
        have hcell := HC.out k (.string d) (by rw [List.getElem?_map, hd]; rfl)
        have hds := HZ.out d (List.mem_of_getElem? hd)
        clear hd
        by_cases hrm : r ≤ m
        · go_wp2
          go_round
          case rel => exact ⟨k + 1, r + d.size, by omega, by go_num, by go_num, by omega, by omega⟩
          case measure => simp [intOf]; omega
        · go_wp2
          go_ret
          exact ⟨⟨r, rfl, hr1, hr2⟩, rfl⟩
      · go_wp2
        go_ret
        exact ⟨⟨r, rfl, hr1, hr2⟩, rfl⟩

end Go.Proofs.YtlhdafinfgdlkaaGreatDoor
