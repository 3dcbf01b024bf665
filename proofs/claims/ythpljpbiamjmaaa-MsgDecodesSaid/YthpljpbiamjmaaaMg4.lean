/- Contracts: msg: which messages are written: a snapshot, an empty message, what a Kind does not list. -/
import Derived.BigRegion
import Derived.Deep.RegionHeld3
import Derived.Test.YthpljpbiamjmaaaProg
import Derived.Test.YthpljpbiamjmaaaKit
import Derived.Test.YthpljpbiamjmaaaRow
import Derived.Test.YthpljpbiamjmaaaCod7
import Derived.Test.YthpljpbiamjmaaaKp0
import Derived.Test.YthpljpbiamjmaaaMg0
import Derived.Test.YthpljpbiamjmaaaMg2
namespace Go.Proofs.Ythpljpbiamjmaaa
open Go.RowKit Go.Proofs

set_option maxRecDepth 100000 in
set_option maxHeartbeats 1000000 in
theorem snap_enc {w : World} {s : SnpM} {a : Option Addr} {c : Nat} (h : IntsAt w (.slice a s.ms.length c) s.ms) :
    Calls Try.prog 34 #[.agg #[.int .i64 s.ix, .int .i64 s.tm, .slice a s.ms.length c, .string s.d]] w fun e w' => e = .returned (.bool (snpB s)) ∧ Below w.heap.size w w' := by
  obtain ⟨sb, hsb⟩ : ∃ sb, sb = snpB s := ⟨_, rfl⟩
  obtain ⟨xi, xt, xm, xd⟩ := s
  dsimp only at h ⊢
  rw [← hsb]
  have hsb2 : sb = (natsB [xi, xt] && decide (xd.size ≤ 65536) && memsB xm) := hsb
  obtain ⟨M, hM⟩ : ∃ M, M = xm.length := ⟨_, rfl⟩
  rw [← hM] at h ⊢
  have hbE := below_more (Below.refl _ w) (.cells #[.int .i64 xi, .int .i64 xt, .slice a M c, .string xd] 25)
  have hbI := below_more hbE (.cells #[.int .i64 xi, .int .i64 xt] 3)
  have HB2 := Lib.hid hbI
  have HNT := Lib.hid (natural_any (ints_new (w := w.alloc (.cells #[.int .i64 xi, .int .i64 xt, .slice a M c, .string xd] 25)) (l := [xi, xt]) (e2 := 3) (cs := #[.int .i64 xi, .int .i64 xt]) (b := w.heap.size + 1) (n := 2) (c := 2) (by simp) rfl (by simp) rfl))
  have HME := Lib.hid (members_any (intsAt_below h hbI))
  obtain ⟨nb, hnb⟩ : ∃ nb, nb = natsB [xi, xt] := ⟨_, rfl⟩
  obtain ⟨mb, hmb⟩ : ∃ mb, mb = memsB xm := ⟨_, rfl⟩
  rw [← hnb] at HNT hsb2
  rw [← hmb] at HME hsb2
  have HSB := Lib.hid hsb2
  clear h hsb hsb2 hM hbE hbI hnb hmb
  go_enter Try.func34, Try.ntmps34
  go_wp2_with fail
  refine (HNT.out).mono ?_
  rintro e w2 ⟨rfl, rfl⟩
  cases nb with
  | false =>
    have HR := Lib.hid (show sb = false by rw [HSB.out]; rfl)
    go_wp2_with fail
    go_ret
    exact ⟨ret_bool HR.out.symm, HB2.out⟩
  | true =>
    by_cases hd : (xd.size : Int) ≤ 65536
    · have HR := Lib.hid (show sb = mb by rw [HSB.out, show decide (xd.size ≤ 65536) = true from decide_eq_true (by omega)]; simp)
      go_wp2_with fail
      refine (HME.out).mono ?_
      rintro e w3 ⟨rfl, rfl⟩
      go_wp2_with fail
      go_ret
      exact ⟨ret_bool HR.out.symm, HB2.out⟩
    · have HR := Lib.hid (show sb = false by rw [HSB.out, show decide (xd.size ≤ 65536) = false from decide_eq_false (by omega)]; rfl)
      go_wp2_with fail
      go_ret
      exact ⟨ret_bool HR.out.symm, HB2.out⟩

def msgC (kd fr to tm ix lt cm : Int) (yes : Bool) (ev : Value) (si st : Int) (mv : Value) (sd : ByteArray) : Array Value := #[.int .i64 kd, .int .i64 fr, .int .i64 to, .int .i64 tm, .int .i64 ix, .int .i64 lt, .int .i64 cm, .bool yes, ev, .int .i64 si, .int .i64 st, mv, .string sd]

theorem or10 {q0 q1 q2 q3 q4 q5 q6 q7 q8 : Bool} : q0 = false ∨ (q0 = true ∧ q1 = false) ∨ (q0 = true ∧ q1 = true ∧ q2 = false) ∨ (q0 = true ∧ q1 = true ∧ q2 = true ∧ q3 = false) ∨ (q0 = true ∧ q1 = true ∧ q2 = true ∧ q3 = true ∧ q4 = false) ∨ (q0 = true ∧ q1 = true ∧ q2 = true ∧ q3 = true ∧ q4 = true ∧ q5 = false) ∨ (q0 = true ∧ q1 = true ∧ q2 = true ∧ q3 = true ∧ q4 = true ∧ q5 = true ∧ q6 = false) ∨ (q0 = true ∧ q1 = true ∧ q2 = true ∧ q3 = true ∧ q4 = true ∧ q5 = true ∧ q6 = true ∧ q7 = false) ∨ (q0 = true ∧ q1 = true ∧ q2 = true ∧ q3 = true ∧ q4 = true ∧ q5 = true ∧ q6 = true ∧ q7 = true ∧ q8 = false) ∨ (q0 = true ∧ q1 = true ∧ q2 = true ∧ q3 = true ∧ q4 = true ∧ q5 = true ∧ q6 = true ∧ q7 = true ∧ q8 = true) := by
  cases q0 <;> cases q1 <;> cases q2 <;> cases q3 <;> cases q4 <;> cases q5 <;> cases q6 <;> cases q7 <;> cases q8 <;> simp

theorem sizeB (n : Nat) : decide (n = 0) = ((n : Int) == 0) := by
  cases n with
  | zero => rfl
  | succ n => simp; omega

theorem emptyB_eq (kd fr to tm ix lt cm : Int) (yes : Bool) (es : List EntM) (si st : Int) (ms : List Int) (sd : ByteArray) : emptyB ⟨kd, fr, to, tm, ix, lt, cm, yes, es, ⟨si, st, ms, sd⟩⟩ = (ix == 0 && lt == 0 && cm == 0 && !yes && ((es.length : Int) == 0) && si == 0 && st == 0 && ((ms.length : Int) == 0) && sd.toList.isEmpty) := by
  unfold emptyB
  dsimp only
  rw [sizeB, sizeB]
  congr 1
  by_cases h : sd.size = 0
  · rw [emptyYes h, decide_eq_true h]
  · rw [emptyNo h, decide_eq_false h]

set_option maxRecDepth 100000 in
set_option maxHeartbeats 4000000 in
theorem isEmpty_any {w : World} {kd fr to tm ix lt cm si st : Int} {yes : Bool} {n M c c2 : Nat} {a a2 : Option Addr} {sd : ByteArray} {r : Bool} (hr : r = (ix == 0 && lt == 0 && cm == 0 && !yes && ((n : Int) == 0) && si == 0 && st == 0 && ((M : Int) == 0) && sd.toList.isEmpty)) :
    Calls Try.prog 35 #[.agg #[.int .i64 kd, .int .i64 fr, .int .i64 to, .int .i64 tm, .int .i64 ix, .int .i64 lt, .int .i64 cm, .bool yes, .slice a n c, .int .i64 si, .int .i64 st, .slice a2 M c2, .string sd]] w fun e w' => e = .returned (.bool r) ∧ Below w.heap.size w w' := by
  have hz := zero_cells Try.infoSnap
  have HB2 := Lib.hid (below_more (below_more (Below.refl _ w) (.cells #[.int .i64 kd, .int .i64 fr, .int .i64 to, .int .i64 tm, .int .i64 ix, .int .i64 lt, .int .i64 cm, .bool yes, .slice a n c, .int .i64 si, .int .i64 st, .slice a2 M c2, .string sd] 27)) (.cells #[.int .i64 si, .int .i64 st, .slice a2 M c2, .string sd] 25))
  rcases or10 (q0 := ix == 0) (q1 := lt == 0) (q2 := cm == 0) (q3 := !yes) (q4 := (n : Int) == 0) (q5 := si == 0) (q6 := st == 0) (q7 := (M : Int) == 0) (q8 := sd.toList.isEmpty) with h0 | ⟨h0, h1⟩ | ⟨h0, h1, h2⟩ | ⟨h0, h1, h2, h3⟩ | ⟨h0, h1, h2, h3, h4⟩ | ⟨h0, h1, h2, h3, h4, h5⟩ | ⟨h0, h1, h2, h3, h4, h5, h6⟩ | ⟨h0, h1, h2, h3, h4, h5, h6, h7⟩ | ⟨h0, h1, h2, h3, h4, h5, h6, h7, h8⟩ | ⟨h0, h1, h2, h3, h4, h5, h6, h7, h8⟩
  · have HR := Lib.hid (show r = false by rw [hr, h0]; simp)
    clear hr
    go_enter Try.func35, Try.ntmps35
    go_wp2_with (first | (refine wpList_alloc_z rfl 25 rfl #[.int .i64 0, .int .i64 0, .slice none 0 0, .string ⟨#[]⟩] hz ?_) | fail)
    go_ret
    exact ⟨ret_bool HR.out.symm, HB2.out⟩
  · have HR := Lib.hid (show r = false by rw [hr, h0, h1]; simp)
    clear hr
    go_enter Try.func35, Try.ntmps35
    go_wp2_with (first | (refine wpList_alloc_z rfl 25 rfl #[.int .i64 0, .int .i64 0, .slice none 0 0, .string ⟨#[]⟩] hz ?_) | fail)
    go_ret
    exact ⟨ret_bool HR.out.symm, HB2.out⟩
  · have HR := Lib.hid (show r = false by rw [hr, h0, h1, h2]; simp)
    clear hr
    go_enter Try.func35, Try.ntmps35
    go_wp2_with (first | (refine wpList_alloc_z rfl 25 rfl #[.int .i64 0, .int .i64 0, .slice none 0 0, .string ⟨#[]⟩] hz ?_) | fail)
    go_ret
    exact ⟨ret_bool HR.out.symm, HB2.out⟩
  · have HR := Lib.hid (show r = false by rw [hr, h0, h1, h2, h3]; simp)
    clear hr
    cases yes <;> simp at h3
    go_enter Try.func35, Try.ntmps35
    go_wp2_with (first | (refine wpList_alloc_z rfl 25 rfl #[.int .i64 0, .int .i64 0, .slice none 0 0, .string ⟨#[]⟩] hz ?_) | fail)
    go_ret
    exact ⟨ret_bool HR.out.symm, HB2.out⟩
  · have HR := Lib.hid (show r = false by rw [hr, h0, h1, h2, h3, h4]; simp)
    clear hr
    cases yes <;> simp at h3
    go_enter Try.func35, Try.ntmps35
    go_wp2_with (first | (refine wpList_alloc_z rfl 25 rfl #[.int .i64 0, .int .i64 0, .slice none 0 0, .string ⟨#[]⟩] hz ?_) | fail)
    go_ret
    exact ⟨ret_bool HR.out.symm, HB2.out⟩
  · have HR := Lib.hid (show r = false by rw [hr, h0, h1, h2, h3, h4, h5]; simp)
    clear hr
    cases yes <;> simp at h3
    go_enter Try.func35, Try.ntmps35
    go_wp2_with (first | (refine wpList_alloc_z rfl 25 rfl #[.int .i64 0, .int .i64 0, .slice none 0 0, .string ⟨#[]⟩] hz ?_) | fail)
    go_ret
    exact ⟨ret_bool HR.out.symm, HB2.out⟩
  · have HR := Lib.hid (show r = false by rw [hr, h0, h1, h2, h3, h4, h5, h6]; simp)
    clear hr
    cases yes <;> simp at h3
    go_enter Try.func35, Try.ntmps35
    go_wp2_with (first | (refine wpList_alloc_z rfl 25 rfl #[.int .i64 0, .int .i64 0, .slice none 0 0, .string ⟨#[]⟩] hz ?_) | fail)
    go_ret
    exact ⟨ret_bool HR.out.symm, HB2.out⟩
  · have HR := Lib.hid (show r = false by rw [hr, h0, h1, h2, h3, h4, h5, h6, h7]; simp)
    clear hr
    cases yes <;> simp at h3
    go_enter Try.func35, Try.ntmps35
    go_wp2_with (first | (refine wpList_alloc_z rfl 25 rfl #[.int .i64 0, .int .i64 0, .slice none 0 0, .string ⟨#[]⟩] hz ?_) | fail)
    go_ret
    exact ⟨ret_bool HR.out.symm, HB2.out⟩
  · have HR := Lib.hid (show r = false by rw [hr, h0, h1, h2, h3, h4, h5, h6, h7, h8]; simp)
    clear hr
    cases yes <;> simp at h3
    go_enter Try.func35, Try.ntmps35
    go_wp2_with (first | (refine wpList_alloc_z rfl 25 rfl #[.int .i64 0, .int .i64 0, .slice none 0 0, .string ⟨#[]⟩] hz ?_) | fail)
    go_ret
    exact ⟨ret_bool HR.out.symm, HB2.out⟩
  · have HR := Lib.hid (show r = true by rw [hr, h0, h1, h2, h3, h4, h5, h6, h7, h8]; simp)
    clear hr
    cases yes <;> simp at h3
    go_enter Try.func35, Try.ntmps35
    go_wp2_with (first | (refine wpList_alloc_z rfl 25 rfl #[.int .i64 0, .int .i64 0, .slice none 0 0, .string ⟨#[]⟩] hz ?_) | fail)
    go_ret
    exact ⟨ret_bool HR.out.symm, HB2.out⟩

end Go.Proofs.Ythpljpbiamjmaaa
