/- Contracts: the code's net: its small functions. -/
import Derived.BigRegion
import Derived.Deep.RegionHeld3
import Derived.Test.YtneomfhlkdpnjaaProg
import Derived.Test.YtneomfhlkdpnjaaKit
import Derived.Test.YtneomfhlkdpnjaaRow
import Derived.Test.YtneomfhlkdpnjaaCod5
import Derived.Test.YtneomfhlkdpnjaaCod7
import Derived.Test.YtneomfhlkdpnjaaNet0
namespace Go.Proofs.Ytneomfhlkdpnjaa
open Go.RowKit Go.Proofs

theorem isNode_any (k : Int) (w : World) : Calls Try.prog 78 #[.int .i64 k] w fun e w' => e = .returned (.bool (nodeB k)) ∧ w' = w := by
  unfold nodeB
  by_cases h1 : 1 ≤ k
  · by_cases h2 : k ≤ 9
    · rw [decide_eq_true h1, decide_eq_true h2]
      go_enter Try.func78, Try.ntmps78
      go_wp2_with fail
      go_ret
      exact ⟨rfl, rfl⟩
    · rw [decide_eq_true h1, decide_eq_false h2]
      go_enter Try.func78, Try.ntmps78
      go_wp2_with fail
      go_ret
      exact ⟨rfl, rfl⟩
  · rw [decide_eq_false h1, Bool.false_and]
    go_enter Try.func78, Try.ntmps78
    go_wp2_with fail
    go_ret
    exact ⟨rfl, rfl⟩

theorem travels_any (p : PkM) (u : Value) (w : World) : Calls Try.prog 51 #[.agg #[.int .i64 p.f, .int .i64 p.t, u]] w fun e w' => e = .returned (.bool (travB p)) ∧ Below w.heap.size w w' := by
  obtain ⟨f, t, b⟩ := p
  have HN1 := fun W => isNode_any f W
  have HN2 := fun W => isNode_any t W
  unfold travB
  dsimp only
  obtain ⟨b1, hb1⟩ : ∃ b1, b1 = nodeB f := ⟨_, rfl⟩
  obtain ⟨b2, hb2⟩ : ∃ b2, b2 = nodeB t := ⟨_, rfl⟩
  rw [← hb1] at HN1 ⊢
  rw [← hb2] at HN2 ⊢
  have H1 := Lib.hid HN1
  have H2 := Lib.hid HN2
  clear HN1 HN2 hb1 hb2
  cases b1 with
  | false =>
    go_enter Try.func51, Try.ntmps51
    go_wp2_with fail
    refine (H1.out _).mono ?_
    rintro e w1 ⟨rfl, rfl⟩
    go_wp2_with fail
    go_ret
    exact ⟨rfl, below_more (Below.refl _ _) _⟩
  | true =>
    cases b2 with
    | false =>
      go_enter Try.func51, Try.ntmps51
      go_wp2_with fail
      refine (H1.out _).mono ?_
      rintro e w1 ⟨rfl, rfl⟩
      go_wp2_with fail
      refine (H2.out _).mono ?_
      rintro e w1 ⟨rfl, rfl⟩
      go_wp2_with fail
      go_ret
      exact ⟨rfl, below_more (Below.refl _ _) _⟩
    | true =>
      by_cases hft : f = t
      · subst hft
        go_enter Try.func51, Try.ntmps51
        go_wp2_with fail
        refine (H1.out _).mono ?_
        rintro e w1 ⟨rfl, rfl⟩
        go_wp2_with fail
        refine (H2.out _).mono ?_
        rintro e w1 ⟨rfl, rfl⟩
        go_wp2_with fail
        go_ret
        exact ⟨by simp, below_more (Below.refl _ _) _⟩
      · have hq : (f != t) = true := by rw [bne_iff_ne]; exact hft
        have HF := Lib.hid (decide_eq_true hft)
        clear hft
        go_enter Try.func51, Try.ntmps51
        go_wp2_with fail
        refine (H1.out _).mono ?_
        rintro e w1 ⟨rfl, rfl⟩
        go_wp2_with fail
        refine (H2.out _).mono ?_
        rintro e w1 ⟨rfl, rfl⟩
        go_wp2_with fail
        go_ret
        exact ⟨by rw [HF.out]; rfl, below_more (Below.refl _ _) _⟩

theorem qsize_any {w : World} {g : Nat} {v : Value} {rs : List RecP} (h : NetAt 93 w g v rs) : Calls Try.prog 56 #[.pointer (some ⟨g, 0, none⟩)] w fun e w' => e = .returned (.int .i64 rs.length) ∧ w' = w := by
  have c0 : w.cell? ⟨g, 0, none⟩ = some v := h.1.cell rfl
  obtain ⟨a, c, rfl⟩ := own_len h.2.1
  obtain ⟨n, hn⟩ : ∃ n, n = rs.length := ⟨_, rfl⟩
  rw [← hn] at c0 ⊢
  clear h hn
  go_enter Try.func56, Try.ntmps56
  go_wp2_with fail
  go_ret
  exact ⟨rfl, rfl⟩

theorem qfull_any {w : World} {g : Nat} {v : Value} {rs : List RecP} (h : NetAt 93 w g v rs) : Calls Try.prog 50 #[.pointer (some ⟨g, 0, none⟩)] w fun e w' => e = .returned (.bool (!decide (rs.length < 64))) ∧ w' = w := by
  have HS := Lib.hid (qsize_any h)
  obtain ⟨n, hn⟩ : ∃ n, n = rs.length := ⟨_, rfl⟩
  rw [← hn] at HS ⊢
  clear h hn
  by_cases h64 : n < 64
  · have hy : decide ((64 : Int) ≤ (n : Int)) = false := decide_eq_false (by omega)
    rw [decide_eq_true h64]
    clear h64
    go_enter Try.func50, Try.ntmps50
    go_wp2_with fail
    refine (HS.out).mono ?_
    rintro e w1 ⟨rfl, rfl⟩
    go_wp2_with fail
    go_ret
    exact ⟨rfl, rfl⟩
  · have hy : decide ((64 : Int) ≤ (n : Int)) = true := decide_eq_true (by omega)
    rw [decide_eq_false h64]
    clear h64
    go_enter Try.func50, Try.ntmps50
    go_wp2_with fail
    refine (HS.out).mono ?_
    rintro e w1 ⟨rfl, rfl⟩
    go_wp2_with fail
    go_ret
    exact ⟨rfl, rfl⟩

theorem nlen_any {w : World} {g : Nat} {v : Value} {rs : List RecP} (h : NetAt 93 w g v rs) : Calls Try.prog 25 #[.pointer (some ⟨g, 0, none⟩)] w fun e w' => e = .returned (.int .i64 rs.length) ∧ w' = w := by
  have c0 : w.cell? ⟨g, 0, none⟩ = some v := h.1.cell rfl
  have HS := Lib.hid (qsize_any h)
  clear h
  go_enter Try.func25, Try.ntmps25
  go_wp2_with fail
  refine (HS.out).mono ?_
  rintro e w1 ⟨rfl, rfl⟩
  go_wp2_with fail
  go_ret
  exact ⟨rfl, rfl⟩

def inNB (k : Int) (n : Nat) : Bool := decide (0 ≤ k) && decide (k < (n : Int))

theorem has_any {w : World} {g : Nat} {v : Value} {rs : List RecP} (h : NetAt 93 w g v rs) (k : Int) : Calls Try.prog 53 #[.pointer (some ⟨g, 0, none⟩), .int .i64 k] w fun e w' => e = .returned (.bool (inNB k rs.length)) ∧ w' = w := by
  have HS := Lib.hid (nlen_any h)
  unfold inNB
  obtain ⟨n, hn⟩ : ∃ n, n = rs.length := ⟨_, rfl⟩
  rw [← hn] at HS ⊢
  clear h hn
  by_cases h1 : 0 ≤ k
  · by_cases h2 : k < (n : Int)
    · have hq := decide_eq_true h2
      rw [decide_eq_true h1, hq]
      clear h2
      go_enter Try.func53, Try.ntmps53
      go_wp2_with fail
      refine (HS.out).mono ?_
      rintro e w1 ⟨rfl, rfl⟩
      go_wp2_with fail
      go_ret
      exact ⟨rfl, rfl⟩
    · have hq := decide_eq_false h2
      rw [decide_eq_true h1, hq]
      clear h2
      go_enter Try.func53, Try.ntmps53
      go_wp2_with fail
      refine (HS.out).mono ?_
      rintro e w1 ⟨rfl, rfl⟩
      go_wp2_with fail
      go_ret
      exact ⟨rfl, rfl⟩
  · rw [decide_eq_false h1, Bool.false_and]
    go_enter Try.func53, Try.ntmps53
    go_wp2_with fail
    go_ret
    exact ⟨rfl, rfl⟩

theorem nnew_any (w : World) : Calls Try.prog 12 #[] w fun e w' => e = .returned (.pointer (some ⟨w.heap.size, 0, none⟩)) ∧ w' = w.alloc (.cells #[.slice none 0 0] 93) := by
  go_enter Try.func12, Try.ntmps12
  go_wp2_with (refine wpList_alloc_z rfl 93 rfl #[.slice none 0 0] (zero_cells (n := 1) (by kernel_rfl)) ?_)
  go_ret
  exact ⟨rfl, rfl⟩

theorem netAt_new {T : TypeId} {w : World} : NetAt T (w.alloc (.cells #[.slice none 0 0] T)) w.heap.size (.slice none 0 0) [] :=
  ⟨Rw.alloc w T #[.slice none 0 0] (Nat.zero_le _), World.ownsRow_nil _ _ _ _, fun r hr => by simp at hr⟩

end Go.Proofs.Ytneomfhlkdpnjaa
