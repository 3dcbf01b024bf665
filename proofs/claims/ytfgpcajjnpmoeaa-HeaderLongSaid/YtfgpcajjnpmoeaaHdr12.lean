/- Contracts: in ascending order, each once: the code's and the reference's. -/
import Derived.Test.YtfgpcajjnpmoeaaShelf
import Derived.BigQuiet
import Derived.Sort.OwnSorted
import Derived.Test.YtfgpcajjnpmoeaaProg
import Derived.Test.YtfgpcajjnpmoeaaKit
import Derived.Test.YtfgpcajjnpmoeaaAsc4
import Derived.Test.YtfgpcajjnpmoeaaRow
import Derived.Test.YtfgpcajjnpmoeaaHdr0
namespace Go.Proofs.Ytfgpcajjnpmoeaa
open Go.RowKit Go.Proofs Go.Sort

/-- One element of a row of the call's own written. -/
theorem own_put {w : World} {base : Nat} {e : TypeId} {g n c : Nat} {xs : List Value} (h : w.ownsRow base e 1 (.slice (some ⟨g, 0, none⟩) n c) n xs) (j : Nat) (u : Value) : (w.setCell ⟨g, j, none⟩ u).ownsRow base e 1 (.slice (some ⟨g, 0, none⟩) n c) n (xs.set j u) := by
  rcases h.2 with ⟨hv, _⟩ | ⟨g1, cap, cur, hv, hb, hh, h1, h2, h3, h4⟩
  · cases hv
  · injection hv with e1 e2 e3
    injection e1 with e1
    injection e1 with e1
    subst e1 e3
    refine ⟨by rw [List.length_set]; exact h.1, .inr ⟨g, c, cur.setIfInBounds j u, rfl, hb, ?_, h1, h2, by simpa using h3, ?_⟩⟩
    · simp only [World.setCell, Array.getElem?_modify, hh]
      simp
    · rw [Array.toList_setIfInBounds, List.take_set, h4]

theorem own_free {w : World} {base : Nat} {e : TypeId} {g n c : Nat} {xs : List Value} (h : w.ownsRow base e 1 (.slice (some ⟨g, 0, none⟩) n c) n xs) (j : Nat) : w.frozen? ⟨g, j, none⟩ = false := by
  rcases h.2 with ⟨hv, _⟩ | ⟨g1, cap, cur, hv, hb, hh, h1, h2, h3, h4⟩
  · cases hv
  · injection hv with e1 e2 e3
    injection e1 with e1
    injection e1 with e1
    subst e1
    simp [World.frozen?, hh]

theorem own_base {w : World} {base : Nat} {e : TypeId} {g n c : Nat} {xs : List Value} (h : w.ownsRow base e 1 (.slice (some ⟨g, 0, none⟩) n c) n xs) : base ≤ g := by
  rcases h.2 with ⟨hv, _⟩ | ⟨g1, cap, cur, hv, hb, _⟩
  · cases hv
  · injection hv with e1 e2 e3
    injection e1 with e1
    injection e1 with e1
    subst e1
    exact hb

theorem own_some {w : World} {base : Nat} {e : TypeId} {v : Value} {n : Nat} {xs : List Value} (h : w.ownsRow base e 1 v n xs) (hn : 0 < n) : ∃ g c, v = .slice (some ⟨g, 0, none⟩) n c := by
  rcases h.2 with ⟨_, h0⟩ | ⟨g, cap, cur, hv, _⟩
  · omega
  · exact ⟨g, cap, hv⟩

theorem strL_enc : strL = encStr := rfl

def srtS (l : List (List UInt8)) : List (List UInt8) := l.mergeSort fun x y => decide (x ≤ y)

theorem srtS_len (l : List (List UInt8)) : (srtS l).length = l.length := by unfold srtS; simp

theorem sort_own {w : World} {base : Nat} {v : Value} {l : List (List UInt8)} (h : w.ownsRow base 9 1 v l.length (l.map strL)) (hb : base ≤ w.heap.size) (hl : l.length ≤ 100000) :
    Calls Try.prog 63 #[v] w fun e w' => e = .returned (.tuple #[]) ∧ w'.ownsRow base 9 1 v l.length ((srtS l).map strL) ∧ Below base w w' := by
  rcases h.2 with ⟨hv, hn⟩ | ⟨g, cap, cur, hv, hbg, hh, h1, h2, h3, h4⟩
  · have hnil : l = [] := List.eq_nil_of_length_eq_zero hn
    subst hnil
    subst hv
    refine (Try.slices_Sort_string_none none 0 w).mono ?_
    rintro e w' ⟨rfl, rfl⟩
    have e0 : srtS [] = [] := List.eq_nil_of_length_eq_zero (by rw [srtS_len]; rfl)
    exact ⟨rfl, by rw [e0]; exact h, Below.refl _ _⟩
  · subst hv
    rw [strL_enc] at h4
    refine (Try.slices_Sort_string g 0 cap l w (holds_of_block hh (by simpa using h4)) (Array.getElem?_eq_some_iff.1 hh).1 (by omega)).mono ?_
    rintro e w' ⟨rfl, n, os, rfl⟩
    refine ⟨rfl, ownsRow_sorted (srtS_len l) hbg hh h1 h2 h3, ?_⟩
    refine (Below.refl base w).grown (grownBy_sorted _) hb ?_
    intro k hk
    injection hk with hk
    omega

theorem compact_le (d : Array (List UInt8)) : ∀ m, (Lib.compactUpTo d m).length ≤ m
  | 0 => by simp [Lib.compactUpTo]
  | m + 1 => by
    rw [Lib.compactUpTo_succ, List.length_append]
    have := compact_le d m
    split
    · simp; omega
    · simp; omega

theorem compact_own {w : World} {base : Nat} {v : Value} {l : List (List UInt8)} (h : w.ownsRow base 9 1 v l.length (l.map strL)) (hb : base ≤ w.heap.size) (hl : l.length ≤ 100000) :
    Calls Try.prog 64 #[v] w fun e w' => (∃ u, e = .returned u ∧ SliceAt w' u ((Lib.compact l).map strL)) ∧ Below base w w' := by
  rcases h.2 with ⟨hv, hn⟩ | ⟨g, cap, cur, hv, hbg, hh, h1, h2, h3, h4⟩
  · have hnil : l = [] := List.eq_nil_of_length_eq_zero hn
    subst hnil
    subst hv
    refine (Try.slices_Compact_string_empty none 0 w).mono ?_
    rintro e w' ⟨rfl, rfl⟩
    exact ⟨⟨_, rfl, SliceAt.nil _⟩, Below.refl _ _⟩
  · subst hv
    rw [strL_enc] at h4
    have hH : Holds encStr w g 0 l.toArray := holds_of_block hh (by simpa using h4)
    refine (Try.slices_Compact_string g 0 cap l w hH (by omega) h1).mono ?_
    rintro e w' ⟨rfl, q, rfl⟩
    have hlen : (Lib.compact l).length ≤ l.length := compact_le _ _
    refine ⟨⟨_, rfl, ⟨some ⟨g, 0, none⟩, cap, by rw [List.length_map], .inr ⟨g, 0, rfl, fun j x hj => ?_⟩⟩⟩, ?_⟩
    · rw [List.getElem?_map] at hj
      obtain ⟨y, hy, rfl⟩ := Option.map_eq_some_iff.1 hj
      have hjl : j < (Lib.compact l).length := (List.getElem?_eq_some_iff.1 hy).1
      have hc := cell?_putRow encStr (Sort.ahead w q) g 0 l.toArray (Lib.compact l ++ List.replicate (l.length - (Lib.compact l).length) []).toArray hH (by simp; omega) j (by simp; omega)
      rw [hc]
      congr 1
      have : (Lib.compact l ++ List.replicate (l.length - (Lib.compact l).length) []).toArray[j]! = y := by
        rw [getElem!_pos _ _ (by simp; omega)]
        simp only [List.getElem_toArray]
        rw [List.getElem_append_left hjl]
        rw [List.getElem?_eq_getElem hjl] at hy
        exact Option.some.inj hy
      rw [this]
      rfl
    · have hg := grownBy_sorted (w := w) (g := g) (n := q) (os := #[]) (Lib.compact l ++ List.replicate (l.length - (Lib.compact l).length) []).toArray
      rw [grow_empty] at hg
      refine (Below.refl base w).grown hg hb ?_
      intro k hk
      injection hk with hk
      omega

theorem ascending_any {w : World} {base : Nat} {v : Value} {l : List (List UInt8)} (h : w.ownsRow base 9 1 v l.length (l.map strL)) (hb : base ≤ w.heap.size) (hl : l.length ≤ 100000) :
    Calls Try.prog 50 #[v] w fun e w' => (∃ u, e = .returned u ∧ SliceAt w' u ((srt l).map strL)) ∧ Below base w w' := by
  have HS := Lib.hid (sort_own h hb hl)
  have HC : Hid (∀ W, W.ownsRow base 9 1 v l.length ((srtS l).map strL) → base ≤ W.heap.size → Calls Try.prog 64 #[v] W fun e w' => (∃ u, e = .returned u ∧ SliceAt w' u ((srt l).map strL)) ∧ Below base W w') := Lib.hid (fun W hW hbW => by
    rw [← srtS_len l] at hW
    exact compact_own hW hbW (by have := srtS_len l; unfold srtS at this; omega))
  have HB := Lib.hid hb
  obtain ⟨a, c, rfl⟩ := own_len h
  clear h hb hl
  go_enter Try.func50, Try.ntmps50
  go_wp2_with fail
  refine HS.out.mono ?_
  rintro e w1 ⟨rfl, hown, hb1⟩
  have HO := Lib.hid hown
  have HB1 := Lib.hid hb1
  clear hown hb1
  go_wp2_with fail
  refine (HC.out _ HO.out (Nat.le_trans HB.out HB1.out.size)).mono ?_
  rintro e w2 ⟨⟨u, rfl, hs⟩, hb2⟩
  have HS2 := Lib.hid hs
  have HB2 := Lib.hid (HB1.out.trans hb2)
  clear hs hb2
  go_wp2_with fail
  go_ret
  exact ⟨⟨u, rfl, HS2.out⟩, HB2.out⟩

end Go.Proofs.Ytfgpcajjnpmoeaa
