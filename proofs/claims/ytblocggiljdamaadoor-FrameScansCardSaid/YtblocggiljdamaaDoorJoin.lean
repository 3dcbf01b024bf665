/- Contracts: rows of bytes joined. -/
import Derived.Laws.AppendOwnNone
import Derived.Test.YtblocggiljdamaaDoorProg
import Derived.Test.YtblocggiljdamaaDoorKit
import Derived.Test.YtblocggiljdamaaDoorInfo
import Derived.Test.YtblocggiljdamaaDoorRow
import Derived.Test.YtblocggiljdamaaDoorCod5
import Derived.Test.YtblocggiljdamaaDoorCod7
import Derived.Test.YtblocggiljdamaaDoorCod8
import Derived.Test.YtblocggiljdamaaDoorCod9
namespace Go.Proofs.YtblocggiljdamaaDoor
open Go.RowKit Go.Proofs

/-- A slice of slices of bytes below block B, each nil or with an address. -/
def PartsB (w : World) (B : Nat) (v : Value) (ls : List (List UInt8)) : Prop :=
  (v = .slice none 0 0 ∧ ls = []) ∨ ∃ A C, v = .slice (some A) ls.length C ∧ (ls = [] ∨ ∃ b o, A = ⟨b, o, none⟩ ∧ b < B ∧ ∀ j l, ls[j]? = some l → ∃ u, w.cell? ⟨b, o + j, none⟩ = some u ∧ ByteSl w B u l)

theorem PartsB.at {w : World} {B : Nat} {v : Value} {ls : List (List UInt8)} (h : PartsB w B v ls) : PartsAt w B v ls := by
  rcases h with ⟨rfl, rfl⟩ | ⟨A, C, rfl, h⟩
  · exact parts_nil _ _ _
  · refine ⟨some A, C, rfl, ?_⟩
    rcases h with h | ⟨b, o, rfl, hb, h⟩
    · exact .inl h
    · refine .inr ⟨b, o, rfl, hb, fun j l hj => ?_⟩
      obtain ⟨u, hu, hs⟩ := h j l hj
      exact ⟨u, hu, hs.part⟩

theorem PartsB.len {w : World} {B : Nat} {v : Value} {ls : List (List UInt8)} (h : PartsB w B v ls) : ∃ A C, v = .slice A ls.length C ∧ (ls = [] ∨ ∃ b o, A = some ⟨b, o, none⟩ ∧ b < B ∧ ∀ j l, ls[j]? = some l → ∃ u, w.cell? ⟨b, o + j, none⟩ = some u ∧ ByteSl w B u l) := by
  rcases h with ⟨rfl, rfl⟩ | ⟨A, C, rfl, h⟩
  · exact ⟨none, 0, rfl, .inl rfl⟩
  · refine ⟨some A, C, rfl, ?_⟩
    rcases h with h | ⟨b, o, rfl, hb, h⟩
    · exact .inl h
    · exact .inr ⟨b, o, rfl, hb, h⟩

set_option maxHeartbeats 1000000 in
theorem joined_any (ls : List (List UInt8)) (v : Value) (w : World) (hp : PartsB w w.heap.size v ls) (hl : ls.flatten.length < 4294967296) (hn : ls.length < 9223372036854775807) :
    Calls Tryd.prog 9 #[v] w fun e w' => (∃ v', e = .returned v' ∧ w'.ownsRow w.heap.size 5 1 v' ls.flatten.length (ls.flatten.map byteV)) ∧ Below w.heap.size w w' := by
  obtain ⟨i0, hi, hz0, hz1, hz2⟩ := info_parts Tryd.infoByte
  have hlen := hp.len
  clear hp
  obtain ⟨A, C, rfl, hp⟩ := hlen
  obtain ⟨n, hnn⟩ : ∃ n, n = ls.length := ⟨_, rfl⟩
  rw [← hnn] at hn ⊢
  have HP := Lib.hid hp
  have HNN := Lib.hid hnn
  have HLL := Lib.hid hl
  clear hp hnn hl
  go_enter Tryd.func9, Tryd.ntmps9
  go_wp2
  go_loopw [3, 4] (fun o i wr => ∃ (k : Nat) (xs : List UInt8), k ≤ n ∧ i = .int .i64 k ∧ Hid (xs = (ls.take k).flatten) ∧ wr.ownsRow w.heap.size 5 1 o xs.length (xs.map byteV) ∧ Below w.heap.size w wr) (fun _ i _ => n - (intOf i).toNat)
  case atStart => exact ⟨0, [], by omega, rfl, Lib.hid rfl, ⟨rfl, .inl ⟨rfl, rfl⟩⟩, Below.refl _ _⟩
  case round =>
    obtain ⟨k, xs, hk, rfl, HX, hown, hb⟩ := hrel
    obtain ⟨w1, hw1⟩ : ∃ w1 : World, w1 = wr := ⟨_, rfl⟩
    subst hw1
    by_cases hlt : k < n
    · obtain ⟨m, hm⟩ : ∃ m, ls[k]? = some m := ⟨_, List.getElem?_eq_getElem (by rw [← HNN.out]; exact hlt)⟩
      have hne : ls ≠ [] := by intro e; have := HNN.out; rw [e] at this; simp at this; omega
      obtain ⟨b, o, rfl, hbw, hcells⟩ := HP.out.resolve_left hne
      obtain ⟨u, hu, hsl⟩ := hcells k m hm
      have hcell : w1.cell? ⟨b, o + k, none⟩ = some u := (hb.cell (p := ⟨b, o + k, none⟩) hbw).trans hu
      have hle := flat_le hm
      have hbig : xs.length + m.length < 1099511627776 := by have := HLL.out; rw [HX.out]; omega
      have HF : Hid ((ls.take (k + 1)).flatten = xs ++ m) := Lib.hid (by rw [flat_succ hm, HX.out])
      have HSL := Lib.hid (hsl.keep hb (Nat.le_refl _))
      have hy : (k : Int) < (n : Int) := by omega
      have HKL := Lib.hid hlt
      have HOW := Lib.hid hown
      have HB := Lib.hid hb
      clear hm hne hcells hu hsl hle hk hown hb hbw
      go_wp2_with (at_builtin; refine wpList_append_sl rfl _ _ 23 rfl w.heap.size 5 i0 (.int .u8 0) Tryd.underlying23 hi hz0 hz1 hz2 rfl _ xs.length _ rfl HOW.out _ m rfl w.heap.size HSL.out hbig HB.out.size ?_; intro v2 w2 hown2 hb2)
      go_roundw
      case rel =>
        refine ⟨k + 1, xs ++ m, by have := HKL.out; omega, by go_num, Lib.hid HF.out.symm, ?_, HB.out.trans hb2⟩
        rw [List.length_append, List.map_append]
        exact hown2
      case measure => have := HKL.out; simp [intOf]; omega
    · have hkn : k = ls.length := by have := HNN.out; omega
      have hx := HX.out
      rw [hkn, List.take_length] at hx
      rw [hx] at hown
      clear hkn hx hk HX
      go_wp2
      go_ret
      exact ⟨⟨_, rfl, hown⟩, hb⟩

end Go.Proofs.YtblocggiljdamaaDoor
