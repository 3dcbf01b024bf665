/- Contracts: the values of some names, the code's and the reference's; few and short fields, few and short texts. -/
import Derived.Test.YtceajdpjablfiaaShelf
import Derived.BigQuiet
import Derived.Test.YtceajdpjablfiaaProg
import Derived.Test.YtceajdpjablfiaaKit
import Derived.Test.YtceajdpjablfiaaRow
namespace Go.Proofs.Ytceajdpjablfiaa
open Go.RowKit Go.Proofs

/-- How long texts are together, each with one more. -/
def lsTot : List ByteArray → Nat
  | [] => 0
  | z :: r => 1 + z.size + lsTot r

theorem lsTot_app : ∀ a b : List ByteArray, lsTot (a ++ b) = lsTot a + lsTot b
  | [], b => by simp [lsTot]
  | x :: r, b => by simp only [List.cons_append, lsTot, lsTot_app r b]; omega

theorem lsTot_len : ∀ zs : List ByteArray, zs.length ≤ lsTot zs
  | [] => Nat.zero_le _
  | z :: r => by have := lsTot_len r; simp only [lsTot, List.length_cons]; omega

theorem total2_any (v : Value) (zs : List ByteArray) (m : Int) (w : World) (hm : 0 ≤ m ∧ m ≤ 1073741824) (hl : zs.length ≤ 281474976710656) (hz : ∀ z ∈ zs, z.size ≤ 281474976710656) (hv : SliceAt w v (zs.map strV)) :
    Calls Try.prog 14 #[v, .int .i64 m] w fun e w' => (∃ r : Int, e = .returned (.int .i64 r) ∧ 0 ≤ r ∧ r ≤ 1125899906842624 ∧ (r ≤ m → (lsTot zs : Int) ≤ r)) ∧ w' = w := by
  by_cases hne : zs = []
  · subst hne
    obtain ⟨a, cp, rfl⟩ := hv.empty
    go_enter Try.func14, Try.ntmps14
    go_wp2
    refine wp_loop_rounds 1 ?_
    rw [rounds_succ]
    go_wp2
    go_ret
    exact ⟨⟨0, rfl, by simp, by decide, by simp [lsTot]⟩, rfl⟩
  · obtain ⟨b, off, cp, rfl, hc⟩ := hv.at (by simpa using hne)
    rw [List.length_map]
    have HC := Lib.hid hc
    have HZ := Lib.hid hz
    clear hc hv hz
    go_enter Try.func14, Try.ntmps14
    go_wp2
    go_loop [5, 6] (fun n i => ∃ (k : Nat) (r : Int), k ≤ zs.length ∧ i = .int .i64 k ∧ n = .int .i64 r ∧ (zs.length : Int) ≤ r ∧ r ≤ 1125899906842624 ∧ Hid ((lsTot (zs.take k) : Int) + zs.length = r + k)) (fun _ i => zs.length - (intOf i).toNat)
    case atStart => exact ⟨0, zs.length, Nat.zero_le _, rfl, rfl, Int.le_refl _, by omega, Lib.hid (by simp [lsTot])⟩
    case round =>
      obtain ⟨k, r, hk, rfl, rfl, hr1, hr2, HR⟩ := hrel
      by_cases hlt : k < zs.length
      · obtain ⟨d, hd⟩ : ∃ d, zs[k]? = some d := ⟨_, List.getElem?_eq_getElem hlt⟩
        have hcell := HC.out k (.string d) (by rw [List.getElem?_map, hd]; rfl)
        have hds := HZ.out d (List.mem_of_getElem? hd)
        have HX : Hid (lsTot (zs.take (k + 1)) = lsTot (zs.take k) + (1 + d.size)) := Lib.hid (by rw [take_succ_of hd, lsTot_app]; simp [lsTot])
        clear hd
        by_cases hrm : r ≤ m
        · go_wp2
          go_round
          case rel => exact ⟨k + 1, r + d.size, by omega, by go_num, by go_num, by omega, by omega, Lib.hid (by have h1 := HX.out; have h2 := HR.out; omega)⟩
          case measure => simp [intOf]; omega
        · go_wp2
          go_ret
          exact ⟨⟨r, rfl, by omega, hr2, fun h => by omega⟩, rfl⟩
      · have HF : Hid ((lsTot zs : Int) = r) := Lib.hid (by
          have h := HR.out
          rw [List.take_of_length_le (by omega)] at h
          omega)
        go_wp2
        go_ret
        exact ⟨⟨r, rfl, by omega, hr2, fun _ => by have := HF.out; omega⟩, rfl⟩

end Go.Proofs.Ytceajdpjablfiaa
