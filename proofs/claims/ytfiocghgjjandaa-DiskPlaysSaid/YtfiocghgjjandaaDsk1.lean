/- Contracts: the code's disk: its small functions. -/
import Derived.BigRegion
import Derived.Deep.RegionHeld3
import Derived.Test.YtfiocghgjjandaaProg
import Derived.Test.YtfiocghgjjandaaKit
import Derived.Test.YtfiocghgjjandaaRow
import Derived.Test.YtfiocghgjjandaaCod5
import Derived.Test.YtfiocghgjjandaaCod7
import Derived.Test.YtfiocghgjjandaaFp
namespace Go.Proofs.Ytfiocghgjjandaa
open Go.RowKit Go.Proofs

theorem performs_any (g : Nat) (room : Int) (mv : Value) (ops : Nat) (cut : Bool) (left : Nat) (w : World) (hr : Rw w 0 g 47 [.int .i64 room, mv, .int .i64 ops, .bool cut, .int .i64 left]) (ho : ops < 4611686018427387904) (hf : left < 9223372036854775808) :
    Calls Try.prog 34 #[.pointer (some ⟨g, 0, none⟩)] w fun e w' => e = .returned (.bool (!cut || decide (left ≠ 0))) ∧
      Rw w' 0 g 47 [.int .i64 room, mv, .int .i64 (ops + 1 : Nat), .bool cut, .int .i64 ((if cut then left - 1 else left) : Nat)] ∧ Kept (fun k => k = g) w w' := by
  have c2 : w.cell? ⟨g, 2, none⟩ = some (.int .i64 ops) := hr.cell rfl
  have c3 : w.cell? ⟨g, 3, none⟩ = some (.bool cut) := hr.cell rfl
  have c4 : w.cell? ⟨g, 4, none⟩ = some (.int .i64 left) := hr.cell rfl
  have f2 : w.frozen? ⟨g, 2, none⟩ = false := hr.free 2
  have f4 : w.frozen? ⟨g, 4, none⟩ = false := hr.free 4
  have ho1 : (ops : Int) < 4611686018427387904 := by omega
  have hf1 : (left : Int) < 9223372036854775808 := by omega
  have HR := Lib.hid hr
  have HK := Lib.hid (kept_refl (fun k => k = g) w)
  clear hr ho hf
  have k3 : (w.setCell ⟨g, 2, none⟩ (.int .i64 ((ops : Int) + 1))).cell? ⟨g, 3, none⟩ = some (.bool cut) := cell_keep c3 (by decide) _
  have k4 : (w.setCell ⟨g, 2, none⟩ (.int .i64 ((ops : Int) + 1))).cell? ⟨g, 4, none⟩ = some (.int .i64 left) := cell_keep c4 (by decide) _
  go_enter Try.func34, Try.ntmps34
  cases cut with
  | false =>
    clear c4 k4 hf1 f4
    obtain ⟨o1, ho2⟩ : ∃ o1 : Int, (ops : Int) + 1 = o1 := ⟨_, rfl⟩
    have hwr : wrap64 o1 = o1 := by unfold wrap64; omega
    clear ho1
    go_wp2_with fail
    go_ret
    refine ⟨rfl, ?_, kept_put HK.out (.inl rfl) 2 _⟩
    exact HR.out.stored 2 (.int .i64 o1)
  | true =>
    by_cases h0 : left = 0
    · subst h0
      clear hf1 f4
      go_wp2_with fail
      go_ret
      refine ⟨rfl, ?_, kept_put HK.out (.inl rfl) 2 _⟩
      exact HR.out.stored 2 (.int .i64 ((ops : Int) + 1))
    · have hne : ((left : Int) == 0) = false := by simpa using h0
      have hpos : (0 : Int) < left := by omega
      go_wp2_with fail
      go_ret
      refine ⟨by simp, ?_, kept_put (kept_put HK.out (.inl rfl) 2 _) (.inl rfl) 4 _⟩
      have e1 : ((left - 1 : Nat) : Int) = (left : Int) - 1 := by omega
      have := (HR.out.stored 2 (.int .i64 ((ops : Int) + 1))).stored 4 (.int .i64 ((left : Int) - 1))
      rw [e1]
      exact this

def nameB (s : List UInt8) : Bool := decide (s ≠ []) && decide (s.length ≤ 100)

theorem nameable_any (s : ByteArray) (w : World) :
    Calls Try.prog 35 #[.string s] w fun e w' => e = .returned (.bool (nameB s.data.toList)) ∧ w' = w := by
  go_enter Try.func35, Try.ntmps35
  by_cases h0 : s.size = 0
  · have he := emptyYes h0
    have hn := nil_of_size h0
    go_wp2_with fail
    go_ret
    refine ⟨?_, rfl⟩
    simp [nameB, hn]
  · have he := emptyNo h0
    have hne : s.data.toList ≠ [] := by intro e; have := size_data s; rw [e] at this; simp at this; omega
    have hl := size_data s
    by_cases h1 : s.size ≤ 100
    · have hy : (s.size : Int) ≤ 100 := by omega
      go_wp2_with fail
      go_ret
      refine ⟨?_, rfl⟩
      simp only [nameB, hl]
      simp [hne, h1]
    · have hy : ¬ (s.size : Int) ≤ 100 := by omega
      go_wp2_with fail
      go_ret
      refine ⟨?_, rfl⟩
      simp only [nameB, hl]
      simp [h1]

theorem dsize_any (g : Nat) (a : Option Addr) (n c : Nat) (w : World) (h : w.cell? ⟨g, 0, none⟩ = some (.slice a n c)) :
    Calls Try.prog 43 #[.pointer (some ⟨g, 0, none⟩)] w fun e w' => e = .returned (.int .i64 n) ∧ w' = w := by
  go_enter Try.func43, Try.ntmps43
  go_wp2_with fail
  go_ret
  exact ⟨rfl, rfl⟩

theorem modulo_any (x : Int) (n : Nat) (w : World) (hx : -9223372036854775808 ≤ x ∧ x ≤ 9223372036854775807) (hn : 0 < n ∧ n < 2199023255552) :
    Calls Try.prog 41 #[.int .i64 x, .int .i64 n] w fun e w' => e = .returned (.int .i64 (x % n)) ∧ w' = w := by
  obtain ⟨hx1, hx2⟩ := hx
  have hn1 : (0 : Int) < n := by omega
  have hn2 : (n : Int) < 2199023255552 := by omega
  have hn0 : ((n : Int) == 0) = false := by simp; omega
  have hlt := Int.tmod_lt_of_pos x hn1
  have hgt := Int.lt_tmod_of_pos x hn1
  clear hn
  go_enter Try.func41, Try.ntmps41
  have hem : x % (n : Int) = x.tmod n % (n : Int) := by
    have h := Int.tmod_add_mul_tdiv x n
    rw [← h, Int.add_mul_emod_self_left, h]
  by_cases hneg : x.tmod n < 0
  · have HE : Hid (x % (n : Int) = x.tmod n + n) := Lib.hid (by
      rw [hem, ← Int.add_emod_right, Int.emod_eq_of_lt (by omega) (by omega)])
    clear hem
    go_wp2_with fail
    go_ret
    exact ⟨by rw [HE.out]; rfl, rfl⟩
  · have HE : Hid (x % (n : Int) = x.tmod n) := Lib.hid (by
      rw [hem, Int.emod_eq_of_lt (by omega) (by omega)])
    clear hem
    go_wp2_with fail
    go_ret
    exact ⟨by rw [HE.out]; rfl, rfl⟩

end Go.Proofs.Ytfiocghgjjandaa
