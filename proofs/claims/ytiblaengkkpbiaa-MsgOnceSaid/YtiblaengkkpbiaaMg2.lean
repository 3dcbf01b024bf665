/- Contracts: msg: which messages are written: small ones. -/
import Derived.BigRegion
import Derived.Deep.RegionHeld3
import Derived.Test.YtiblaengkkpbiaaProg
import Derived.Test.YtiblaengkkpbiaaKit
import Derived.Test.YtiblaengkkpbiaaCod7
import Derived.Test.YtiblaengkkpbiaaKp0
import Derived.Test.YtiblaengkkpbiaaMg0
namespace Go.Proofs.Ytiblaengkkpbiaa
open Go.RowKit Go.Proofs

theorem ints_cell {w : World} {A : Option Addr} {n C : Nat} {l : List Int} (h : IntsAt w (.slice A n C) l) {i : Nat} {x : Int} (hx : l[i]? = some x) : ∃ b o, A = some ⟨b, o, none⟩ ∧ w.cell? ⟨b, o + i, none⟩ = some (.int .i64 x) := by
  rcases h.2 with ⟨_, h2⟩ | ⟨ad, c, hv, h2⟩
  · rw [h2] at hx; simp at hx
  · rcases h2 with h2 | ⟨b, o, rfl, h2⟩
    · rw [h2] at hx; simp at hx
    · injection hv with e1 _ _
      exact ⟨b, o, e1, h2 i x hx⟩

theorem natsB_take {l : List Int} {i : Nat} {x : Int} (hx : l[i]? = some x) (h : natsB (l.take i) = true) (h0 : 0 ≤ x) : natsB (l.take (i + 1)) = true := by
  rw [take_succ_of hx]
  unfold natsB at h ⊢
  rw [List.all_append, h]
  simp [h0]

theorem natsB_not {l : List Int} {i : Nat} {x : Int} (hx : l[i]? = some x) (h0 : x < 0) : natsB l = false := by
  cases hb : natsB l with
  | false => rfl
  | true => have := (natsB_iff _).1 hb x (List.mem_of_getElem? hx); omega

theorem natural_any {w : World} {v : Value} {l : List Int} (h : IntsAt w v l) :
    Calls Try.prog 32 #[v] w fun e w' => e = .returned (.bool (natsB l)) ∧ w' = w := by
  obtain ⟨A, C, rfl⟩ := intsAt_len h
  obtain ⟨n, hnn⟩ : ∃ n, n = l.length := ⟨_, rfl⟩
  rw [← hnn] at h ⊢
  have H := Lib.hid h
  have HN := Lib.hid hnn
  clear h hnn
  go_enter Try.func32, Try.ntmps32
  go_wp2_with fail
  go_loopw [7] (fun iv wr => ∃ i : Nat, i ≤ n ∧ iv = .int .i64 i ∧ Hid (natsB (l.take i) = true) ∧ w = wr) (fun iv _ => n - (intOf iv).toNat)
  case atStart => exact ⟨0, Nat.zero_le _, rfl, Lib.hid rfl, rfl⟩
  case round =>
    obtain ⟨i, hi', rfl, HT, rfl⟩ := hrel
    by_cases hlt : i < n
    · obtain ⟨x, hx⟩ : ∃ x, l[i]? = some x := ⟨_, List.getElem?_eq_getElem (by rw [← HN.out]; exact hlt)⟩
      obtain ⟨b, o, rfl, d0⟩ := ints_cell H.out hx
      have hy : (i : Int) < (n : Int) := by omega
      have hi1 : (i : Int) < 1000000 := by have h1 := H.out.1; have := HN.out; omega
      have HI := Lib.hid hlt
      have HX := Lib.hid hx
      clear hx hlt hi'
      by_cases h0 : x < 0
      · have HR := Lib.hid (natsB_not HX.out h0)
        go_wp2_with fail
        go_ret
        exact ⟨ret_bool HR.out.symm, rfl⟩
      · have HR := Lib.hid (natsB_take HX.out HT.out (by omega))
        go_wp2_with fail
        go_roundw
        case rel => exact ⟨i + 1, HI.out, by go_num, HR, trivial⟩
        case measure => have := HI.out; simp [intOf]; omega
    · have hyk : ¬ (i : Int) < (n : Int) := by omega
      have HR : Hid (natsB l = true) := Lib.hid (by have := HT.out; rwa [List.take_of_length_le (by rw [← HN.out]; omega)] at this)
      clear hlt hi'
      go_wp2_with fail
      go_ret
      exact ⟨ret_bool HR.out.symm, rfl⟩

theorem isNode_any {w : World} (n : Int) : Calls Try.prog 31 #[.int .i64 n] w fun e w' => e = .returned (.bool (ndB n)) ∧ w' = w := by
  by_cases h1 : 1 ≤ n
  · by_cases h2 : n ≤ 9
    · have hr := Lib.hid (show ndB n = true by unfold ndB; simp [h1, h2])
      go_enter Try.func31, Try.ntmps31
      go_wp2_with fail
      go_ret
      exact ⟨ret_bool hr.out.symm, rfl⟩
    · have hr := Lib.hid (show ndB n = false by unfold ndB; simp [h1, h2])
      go_enter Try.func31, Try.ntmps31
      go_wp2_with fail
      go_ret
      exact ⟨ret_bool hr.out.symm, rfl⟩
  · have hr := Lib.hid (show ndB n = false by unfold ndB; simp [h1])
    go_enter Try.func31, Try.ntmps31
    go_wp2_with fail
    go_ret
    exact ⟨ret_bool hr.out.symm, rfl⟩

theorem members_any {w : World} {v : Value} {l : List Int} (h : IntsAt w v l) :
    Calls Try.prog 49 #[v] w fun e w' => e = .returned (.bool (memsB l)) ∧ w' = w := by
  have HC := Lib.hid (natural_any h)
  obtain ⟨A, C, rfl⟩ := intsAt_len h
  obtain ⟨n, hnn⟩ : ∃ n, n = l.length := ⟨_, rfl⟩
  rw [← hnn] at HC ⊢
  have HN := Lib.hid hnn
  clear h hnn
  by_cases h1 : (n : Int) ≤ 9
  · have hr := Lib.hid (show memsB l = natsB l by unfold memsB; rw [show decide (l.length ≤ 9) = true from decide_eq_true (by have := HN.out; omega)]; simp)
    go_enter Try.func49, Try.ntmps49
    go_wp2_with fail
    refine (HC.out).mono ?_
    rintro e w1 ⟨rfl, rfl⟩
    go_wp2_with fail
    go_ret
    exact ⟨ret_bool hr.out.symm, rfl⟩
  · have hr := Lib.hid (show memsB l = false by unfold memsB; rw [show decide (l.length ≤ 9) = false from decide_eq_false (by have := HN.out; omega)]; simp)
    go_enter Try.func49, Try.ntmps49
    go_wp2_with fail
    go_ret
    exact ⟨ret_bool hr.out.symm, rfl⟩

end Go.Proofs.Ytiblaengkkpbiaa
