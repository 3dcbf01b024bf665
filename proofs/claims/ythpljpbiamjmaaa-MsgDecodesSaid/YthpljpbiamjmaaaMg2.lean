/- Contracts: msg: which messages are written: small ones. -/
import Derived.BigRegion
import Derived.Deep.RegionHeld3
import Derived.Test.YthpljpbiamjmaaaProg
import Derived.Test.YthpljpbiamjmaaaKit
import Derived.Test.YthpljpbiamjmaaaRow
import Derived.Test.YthpljpbiamjmaaaCod7
import Derived.Test.YthpljpbiamjmaaaKp0
import Derived.Test.YthpljpbiamjmaaaMg0
namespace Go.Proofs.Ythpljpbiamjmaaa
open Go.RowKit Go.Proofs

theorem ints_cell {w : World} {A : Option Addr} {n C : Nat} {l : List Int} (h : IntsAt w (.slice A n C) l) {i : Nat} {x : Int} (hx : l[i]? = some x) : ∃ b o, A = some ⟨b, o, none⟩ ∧ w.cell? ⟨b, o + i, none⟩ = some (.int .i64 x) := by
  rcases h.2 with ⟨_, h2⟩ | ⟨ad, c, hv, h2⟩
  · rw [h2] at hx; simp at hx
  · rcases h2 with h2 | ⟨b, o, rfl, h2⟩
    · rw [h2] at hx; simp at hx
    · injection hv with e1 _ _
      exact ⟨b, o, e1, h2 i x hx⟩

theorem natsB_take {l : List Int} {i : Nat} {x : Int} (hx : l[i]? = some x) (h : natsB (l.take i) = true) (h0 : 0 ≤ x) : natsB (l.take (i + 1)) = true := by
  rw [take_succ_of hx]
  unfold natsB at h ⊢
  rw [List.all_append, h]
  simp [h0]

theorem natsB_not {l : List Int} {i : Nat} {x : Int} (hx : l[i]? = some x) (h0 : x < 0) : natsB l = false := by
  cases hb : natsB l with
  | false => rfl
  | true => have := (natsB_iff _).1 hb x (List.mem_of_getElem? hx); omega

theorem natural_any {w : World} {v : Value} {l : List Int} (h : IntsAt w v l) :
    Calls Try.prog 32 #[v] w fun e w' => e = .returned (.bool (natsB l)) ∧ w' = w := by
  obtain ⟨A, C, rfl⟩ := intsAt_len h
  obtain ⟨n, hnn⟩ : ∃ n, n = l.length := ⟨_, rfl⟩
  rw [← hnn] at h ⊢
  have H := Lib.hid h
  have HN := Lib.hid hnn
  clear h hnn
  go_enter Try.func32, Try.ntmps32
  go_wp2_with fail
  go_loopw [7] (fun iv wr => ∃ i : Nat, i ≤ n ∧ iv = .int .i64 i ∧ Hid (natsB (l.take i) = true) ∧ w = wr) (fun iv _ => n - (intOf iv).toNat)
  case atStart => exact ⟨0, Nat.zero_le _, rfl, Lib.hid rfl, rfl⟩
  case round =>
    obtain ⟨i, hi', rfl, HT, rfl⟩ := hrel
    by_cases hlt : i < n
    · obtain ⟨x, hx⟩ : ∃ x, l[i]? = some x := ⟨_, List.getElem?_eq_getElem (by rw [← HN.out]; exact hlt)⟩
      obtain ⟨b, o, rfl, d0⟩ := ints_cell H.out hx
      have hy : (i : Int) < (n : Int) := by omega
      have hi1 : (i : Int) < 1000000 := by have h1 := H.out.1; have := HN.out; omega
      have HI := Lib.hid hlt
      have HX := Lib.hid hx
      clear hx hlt hi'
      by_cases h0 : x < 0
      · have HR := Lib.hid (natsB_not HX.out h0)
        go_wp2_with fail
        go_ret
        exact ⟨ret_bool HR.out.symm, rfl⟩
      · have HR := Lib.hid (natsB_take HX.out HT.out (by omega))
        go_wp2_with fail
        go_roundw
        case rel => exact ⟨i + 1, HI.out, by go_num, HR, trivial⟩
        case measure => have := HI.out; simp [intOf]; omega
    · have hyk : ¬ (i : Int) < (n : Int) := by omega
      have HR : Hid (natsB l = true) := Lib.hid (by have := HT.out; rwa [List.take_of_length_le (by rw [← HN.out]; omega)] at this)
      clear hlt hi'
      go_wp2_with fail
      go_ret
      exact ⟨ret_bool HR.out.symm, rfl⟩

theorem isNode_any {w : World} (n : Int) : Calls Try.prog 31 #[.int .i64 n] w fun e w' => e = .returned (.bool (ndB n)) ∧ w' = w := by
  by_cases h1 : 1 ≤ n
  · by_cases h2 : n ≤ 9
    · have hr := Lib.hid (show ndB n = true by unfold ndB; simp [h1, h2])
      go_enter Try.func31, Try.ntmps31
      go_wp2_with fail
      go_ret
      exact ⟨ret_bool hr.out.symm, rfl⟩
    · have hr := Lib.hid (show ndB n = false by unfold ndB; simp [h1, h2])
      go_enter Try.func31, Try.ntmps31
      go_wp2_with fail
      go_ret
      exact ⟨ret_bool hr.out.symm, rfl⟩
  · have hr := Lib.hid (show ndB n = false by unfold ndB; simp [h1])
    go_enter Try.func31, Try.ntmps31
    go_wp2_with fail
    go_ret
    exact ⟨ret_bool hr.out.symm, rfl⟩

theorem members_any {w : World} {v : Value} {l : List Int} (h : IntsAt w v l) :
    Calls Try.prog 49 #[v] w fun e w' => e = .returned (.bool (memsB l)) ∧ w' = w := by
  have HC := Lib.hid (natural_any h)
  obtain ⟨A, C, rfl⟩ := intsAt_len h
  obtain ⟨n, hnn⟩ : ∃ n, n = l.length := ⟨_, rfl⟩
  rw [← hnn] at HC ⊢
  have HN := Lib.hid hnn
  clear h hnn
  by_cases h1 : (n : Int) ≤ 9
  · have hr := Lib.hid (show memsB l = natsB l by unfold memsB; rw [show decide (l.length ≤ 9) = true from decide_eq_true (by have := HN.out; omega)]; simp)
    go_enter Try.func49, Try.ntmps49
    go_wp2_with fail
    refine (HC.out).mono ?_
    rintro e w1 ⟨rfl, rfl⟩
    go_wp2_with fail
    go_ret
    exact ⟨ret_bool hr.out.symm, rfl⟩
  · have hr := Lib.hid (show memsB l = false by unfold memsB; rw [show decide (l.length ≤ 9) = false from decide_eq_false (by have := HN.out; omega)]; simp)
    go_enter Try.func49, Try.ntmps49
    go_wp2_with fail
    go_ret
    exact ⟨ret_bool hr.out.symm, rfl⟩

theorem ints_new {w : World} {l : List Int} {e2 : TypeId} {cs : Array Value} {b n c : Nat} (hb : b = w.heap.size) (hn : n = l.length) (hl : l.length ≤ 1000000) (hcs : cs.toList = l.map kiV) : IntsAt (w.alloc (.cells cs e2)) (.slice (some ⟨b, 0, none⟩) n c) l := by
  subst hb hn
  refine ⟨hl, .inr ⟨_, c, rfl, .inr ⟨w.heap.size, 0, rfl, fun j x hj => ?_⟩⟩⟩
  rw [Nat.zero_add, cell_of_row _ _ _ _ e2 (0, 0) (heap_alloc_new w (.cells cs e2))]
  have h3 : (l.map kiV)[j]? = some (kiV x) := by rw [List.getElem?_map, hj]; rfl
  rw [← hcs] at h3
  simpa using h3

theorem ents_cell {w : World} {A : Option Addr} {n C : Nat} {es : List EntM} (h : EntsAt w (.slice A n C) es) {i : Nat} {x : EntM} (hx : es[i]? = some x) : ∃ b o u, A = some ⟨b, o, none⟩ ∧ w.rangeAt b (o + i * 5) (cellsE ⟨x, u⟩) ∧ IntsAt w u x.ms := by
  obtain ⟨A2, C2, hv, h⟩ := h
  injection hv with e1 _ _
  rcases h with h | ⟨b, o, ha, h⟩
  · rw [h] at hx; simp at hx
  · obtain ⟨u, h1, h2⟩ := h i x hx
    exact ⟨b, o, u, by rw [e1, ha], h1, h2⟩

theorem entB_take {l : List EntM} {i : Nat} {x : EntM} (hx : l[i]? = some x) (h : (l.take i).all entB = true) (h0 : entB x = true) : (l.take (i + 1)).all entB = true := by
  rw [take_succ_of hx, List.all_append, h]
  simp [h0]

theorem entB_not {l : List EntM} {i : Nat} {x : EntM} (hx : l[i]? = some x) (h0 : entB x = false) : entsB l = false := by
  have : l.all entB = false := by
    cases hb : l.all entB with
    | false => rfl
    | true => rw [List.all_eq_true] at hb; rw [hb x (List.mem_of_getElem? hx)] at h0; cases h0
  unfold entsB
  rw [this]
  simp

set_option maxRecDepth 100000 in
set_option maxHeartbeats 1000000 in
theorem entries_enc {w : World} {v : Value} {es : List EntM} (h : EntsAt w v es) (hl : es.length ≤ 1000000) :
    Calls Try.prog 33 #[v] w fun e w' => e = .returned (.bool (entsB es)) ∧ Below w.heap.size w w' := by
  obtain ⟨A, C, rfl, hz⟩ := id h
  obtain ⟨n, hnn⟩ : ∃ n, n = es.length := ⟨_, rfl⟩
  rw [← hnn] at h ⊢
  have H := Lib.hid h
  have HN := Lib.hid hnn
  clear h hnn hz
  by_cases h8 : (8 : Int) < (n : Int)
  · have HR := Lib.hid (show entsB es = false by unfold entsB; rw [show decide (es.length ≤ 8) = false from decide_eq_false (by have := HN.out; omega)]; rfl)
    go_enter Try.func33, Try.ntmps33
    go_wp2_with fail
    go_ret
    exact ⟨ret_bool HR.out.symm, Below.refl _ _⟩
  have HN8 : Hid (es.length ≤ 8) := Lib.hid (by have := HN.out; omega)
  have hz := zero_cells Try.infoEntz
  go_enter Try.func33, Try.ntmps33
  go_wp2_with fail
  go_loopw [10] (fun iv wr => ∃ i : Nat, i ≤ n ∧ iv = .int .i64 i ∧ Hid ((es.take i).all entB = true) ∧ Hid (Below w.heap.size w wr)) (fun iv _ => n - (intOf iv).toNat)
  case atStart => exact ⟨0, Nat.zero_le _, rfl, Lib.hid rfl, Lib.hid (Below.refl _ _)⟩
  case round =>
    obtain ⟨i, hi', rfl, HT, HB⟩ := hrel
    obtain ⟨w1, hw1⟩ : ∃ w1 : World, w1 = wr := ⟨_, rfl⟩
    subst hw1
    by_cases hlt : i < n
    · obtain ⟨x, hx⟩ : ∃ x, es[i]? = some x := ⟨_, List.getElem?_eq_getElem (by rw [← HN.out]; exact hlt)⟩
      obtain ⟨b, o, u, rfl, hr, hu⟩ := ents_cell (entsAt_below H.out HB.out) hx
      obtain ⟨ua, uc, rfl⟩ := intsAt_len hu
      have HX := Lib.hid hx
      obtain ⟨eb, heb⟩ : ∃ eb, eb = entB x := ⟨_, rfl⟩
      have HEB := Lib.hid heb
      obtain ⟨xi, xt, xk, xd, xm⟩ := x
      dsimp only at hr hu
      obtain ⟨M, hM⟩ : ∃ M, M = xm.length := ⟨_, rfl⟩
      have d0 : w1.cell? ⟨b, o + i * 5, none⟩ = some (.int .i64 xi) := hr 0 _ rfl
      have d1 : w1.cell? ⟨b, o + i * 5 + 1, none⟩ = some (.int .i64 xt) := hr 1 _ rfl
      have d2 : w1.cell? ⟨b, o + i * 5 + 2, none⟩ = some (.int .i64 xk) := hr 2 _ rfl
      have d3 : w1.cell? ⟨b, o + i * 5 + 3, none⟩ = some (.string xd) := hr 3 _ rfl
      have d4 : w1.cell? ⟨b, o + i * 5 + 4, none⟩ = some (.slice ua M uc) := by rw [hM]; exact hr 4 _ rfl
      rw [← hM] at hu
      have hy : (i : Int) < (n : Int) := by omega
      have hi1 : (i : Int) < 9 := by omega
      have HI := Lib.hid hlt
      have hbE := below_more (Below.refl _ w1) (.cells #[.int .i64 xi, .int .i64 xt, .int .i64 xk, .string xd, .slice ua M uc] 46)
      have hbI := below_more hbE (.cells #[.int .i64 xi, .int .i64 xt, .int .i64 xk] 3)
      have HB2 := Lib.hid (HB.out.trans (Below.mono hbI HB.out.size))
      have HNT := Lib.hid (natural_any (ints_new (w := w1.alloc (.cells #[.int .i64 xi, .int .i64 xt, .int .i64 xk, .string xd, .slice ua M uc] 46)) (l := [xi, xt, xk]) (e2 := 3) (cs := #[.int .i64 xi, .int .i64 xt, .int .i64 xk]) (b := w1.heap.size + 1) (n := 3) (c := 3) (by simp) rfl (by simp) rfl))
      have HME := Lib.hid (members_any (intsAt_below hu hbI))
      have hEB2 : eb = (natsB [xi, xt, xk] && decide (xd.size ≤ 4000) && memsB xm) := heb
      have HEB2 := Lib.hid hEB2
      obtain ⟨nb, hnb⟩ : ∃ nb, nb = natsB [xi, xt, xk] := ⟨_, rfl⟩
      obtain ⟨mb, hmb⟩ : ∃ mb, mb = memsB xm := ⟨_, rfl⟩
      rw [← hnb] at HNT HEB2
      rw [← hmb] at HME HEB2
      clear hr hu hx hlt hi' hM hbE hbI heb hEB2 hnb hmb
      go_wp2_with (first | (refine wpList_alloc_z rfl 46 rfl #[.int .i64 0, .int .i64 0, .int .i64 0, .string ⟨#[]⟩, .slice none 0 0] hz ?_) | fail)
      refine (HNT.out).mono ?_
      rintro e w2 ⟨rfl, rfl⟩
      cases nb with
      | false =>
        have HR := Lib.hid (entB_not HX.out (by rw [← HEB.out, HEB2.out]; rfl))
        go_wp2_with fail
        go_ret
        exact ⟨ret_bool HR.out.symm, HB2.out⟩
      | true =>
        by_cases hd : (4000 : Int) < (xd.size : Int)
        · have HR := Lib.hid (entB_not HX.out (by rw [← HEB.out, HEB2.out, show decide (xd.size ≤ 4000) = false from decide_eq_false (by omega)]; rfl))
          go_wp2_with fail
          go_ret
          exact ⟨ret_bool HR.out.symm, HB2.out⟩
        · have HD : Hid (decide (xd.size ≤ 4000) = true) := Lib.hid (decide_eq_true (by omega))
          go_wp2_with fail
          refine (HME.out).mono ?_
          rintro e w3 ⟨rfl, rfl⟩
          cases mb with
          | false =>
            have HR := Lib.hid (entB_not HX.out (by rw [← HEB.out, HEB2.out, HD.out]; rfl))
            go_wp2_with fail
            go_ret
            exact ⟨ret_bool HR.out.symm, HB2.out⟩
          | true =>
            have HR := Lib.hid (entB_take HX.out HT.out (by rw [← HEB.out, HEB2.out, HD.out]; rfl))
            go_wp2_with fail
            go_roundw
            case rel => exact ⟨i + 1, HI.out, by go_num, HR, HB2⟩
            case measure => have := HI.out; simp [intOf]; omega
    · have hyk : ¬ (i : Int) < (n : Int) := by omega
      have HR : Hid (entsB es = true) := Lib.hid (by
        have := HT.out
        rw [List.take_of_length_le (by rw [← HN.out]; omega)] at this
        unfold entsB
        rw [this, decide_eq_true HN8.out]; rfl)
      clear hlt hi'
      go_wp2_with fail
      go_ret
      exact ⟨ret_bool HR.out.symm, HB.out⟩

end Go.Proofs.Ythpljpbiamjmaaa
