/- does: whatever the step, the two of them answer alike. -/
import Derived.BigRegion
import Derived.BigQuiet
import Derived.Deep.RegionHeld3
import Derived.Deep.RegionLaw
import Derived.Test.YtfiocghgjjandaaProg
import Derived.Test.YtfiocghgjjandaaKit
import Derived.Test.YtfiocghgjjandaaRow
import Derived.Test.YtfiocghgjjandaaCod2
import Derived.Test.YtfiocghgjjandaaCod5
import Derived.Test.YtfiocghgjjandaaCod7
import Derived.Test.YtfiocghgjjandaaFrm4
import Derived.Test.YtfiocghgjjandaaFrm5
import Derived.Test.YtfiocghgjjandaaDsk6
import Derived.Test.YtfiocghgjjandaaDsk7
import Derived.Test.YtfiocghgjjandaaDsk9
import Derived.Test.YtfiocghgjjandaaDsk12
import Derived.Test.YtfiocghgjjandaaDsk14
import Derived.Test.YtfiocghgjjandaaDsk17
import Derived.Test.YtfiocghgjjandaaDsk20
import Derived.Test.YtfiocghgjjandaaRfd0
import Derived.Test.YtfiocghgjjandaaDpl1
import Derived.Test.YtfiocghgjjandaaDpl2
import Derived.Test.YtfiocghgjjandaaDpl3
namespace Go.Proofs.Ytfiocghgjjandaa
open Go.RowKit Go.Proofs

theorem byAt_keepD {w w' : World} {g : Nat} {l : List UInt8} (h : ByAt w g 0 l) (hk : w'.heap[g]? = w.heap[g]?) : ByAt w' g 0 l := fun j x hj => cell_same (h j x hj) hk

theorem two_parts {w : World} {Z : Nat → Prop} {gb b2 N m M : Nat} {l : List UInt8} {ad : Option Addr} (hat : ByAt w gb 0 l) (hN : N = l.length) (hm : m ≤ N) (hM : M = N - m) (had : ad = if N = m then some ⟨gb, 0, none⟩ else some ⟨gb, 0 + m, none⟩) (hZ : Z gb) (hZ2 : Z b2)
    (h0 : w.cell? ⟨b2, 0, none⟩ = some (.slice (some ⟨gb, 0, none⟩) m N)) (h1 : w.cell? ⟨b2, 1, none⟩ = some (.slice ad M M)) : PartsZ w Z (.slice (some ⟨b2, 0, none⟩) 2 2) [l.take m, l.drop m] := by
  refine .inr ⟨_, 2, rfl, .inr ⟨b2, 0, rfl, hZ2, fun j x hj => ?_⟩⟩
  have hl : (l.take m).length = m := by rw [List.length_take]; omega
  have hd : (l.drop m).length = M := by rw [List.length_drop]; omega
  match j, hj with
  | 0, hj =>
    cases hj
    refine ⟨_, by rw [Nat.zero_add]; exact h0, .inr ⟨_, N, by rw [hl], by rw [hl]; exact hm, .inr ⟨gb, 0, rfl, hZ, fun j x hj => ?_⟩⟩⟩
    rw [List.getElem?_take] at hj
    split at hj
    · exact hat j x hj
    · cases hj
  | 1, hj =>
    cases hj
    subst had
    refine ⟨_, by rw [Nat.zero_add]; exact h1, ?_⟩
    by_cases h : N = m
    · rw [if_pos h]
      exact .inr ⟨_, M, by rw [hd], by rw [hd]; exact Nat.le_refl _, .inl (List.eq_nil_of_length_eq_zero (by omega))⟩
    · rw [if_neg h]
      refine .inr ⟨_, M, by rw [hd], by rw [hd]; exact Nat.le_refl _, .inr ⟨gb, 0 + m, rfl, hZ, fun j x hj => ?_⟩⟩
      rw [List.getElem?_drop] at hj
      have := hat (m + j) x hj
      rw [Nat.zero_add] at this ⊢
      exact this
  | j + 2, hj => simp at hj

theorem row_cells2 {w : World} {e : TypeId} {x y : Value} {b2 : Nat} (hb : b2 = w.heap.size) : (w.alloc (.cells #[x, y] e)).cell? ⟨b2, 0, none⟩ = some x ∧ (w.alloc (.cells #[x, y] e)).cell? ⟨b2, 1, none⟩ = some y := by
  subst hb
  have h := Rw.alloc w e #[x, y] (Nat.zero_le _)
  exact ⟨Rw.cell h rfl, Rw.cell h rfl⟩

set_option maxRecDepth 100000 in
set_option maxHeartbeats 16000000 in
theorem ddoes_any {w0 w : World} {g h : Nat} {C : CodM} {k : Nat} (H : BothD w0 w (fun _ => False) g h C k) (hk : k ≤ 900) (kd : Int) (a b : ByteArray) (n : Int) (ps : List Int) (pv : Value) (ha : a.size ≤ maxLen) (hb : b.size ≤ maxLen) (hn : IntOk n) (hn3 : n ≤ 3000) (hp : PickAt w0 pv ps) (hpr : ∀ p ∈ ps, IntOk p) (hpl : ps.length < 140737488355328) (i : Nat) (hi : i ≤ 100) :
    Calls Try.prog 8 #[.pointer (some ⟨g, 0, none⟩), .pointer (some ⟨h, 0, none⟩), .agg #[.int .i64 kd, .string a, .string b, .int .i64 n, pv], .int .i64 i] w fun e w' => StepV w0 w' e (k + 1) := by
  have hall : CAll C k := by obtain ⟨_, _, _, _, h⟩ := H; exact h
  have hb0 := bothD_below H
  obtain ⟨gs, hgs⟩ : ∃ gs, gs = w.heap.size := ⟨_, rfl⟩
  have hrb : Rw (w.alloc (.cells #[.int .i64 kd, .string a, .string b, .int .i64 n, pv] 36)) 0 w.heap.size 36 [.int .i64 kd, .string a, .string b, .int .i64 n, pv] := Rw.alloc w _ _ (Nat.zero_le _)
  have hlt : w.heap.size < (w.alloc (.cells #[.int .i64 kd, .string a, .string b, .int .i64 n, pv] 36)).heap.size := Rw.size hrb
  have hbx : BothD w0 (w.alloc (.cells #[.int .i64 kd, .string a, .string b, .int .i64 n, pv] 36)) (fun x => x = w.heap.size) g h C k := bothD_less (bothD_new H (below_more (Below.refl _ _) _)) (fun x hx => .inr ⟨by omega, by omega⟩)
  obtain ⟨wA, hwA⟩ : ∃ wA, wA = (w.alloc (.cells #[.int .i64 kd, .string a, .string b, .int .i64 n, pv] 36)) := ⟨_, rfl⟩
  rw [← hwA] at hrb hlt hbx
  rw [← hgs] at hrb hlt hbx
  have HW := Lib.hid hwA
  have HG := Lib.hid hgs
  have HB := Lib.hid hbx
  have HALL := Lib.hid hall
  have HLT := Lib.hid hlt
  have HRB := Lib.hid hrb
  have d0 := Rw.cell hrb (j := 0) rfl
  have d1 := Rw.cell hrb (j := 1) rfl
  have d2 := Rw.cell hrb (j := 2) rfl
  have d3 := Rw.cell hrb (j := 3) rfl
  have d4 := Rw.cell hrb (j := 4) rfl
  have HPK := Lib.hid hp
  have HPR : Hid (RangeI ps) := Lib.hid ⟨hpr, by omega⟩
  have HA := Lib.hid ha
  have HBB := Lib.hid hb
  have HNN := Lib.hid hn
  have HPL := Lib.hid hpl
  have hib : (i : Int) ≤ 100 := by omega
  have hn1 : -9223372036854775808 ≤ n := hn.1
  obtain ⟨pa, pc, rfl, _, _⟩ := hp
  have hcase : kd = 1 ∨ kd = 2 ∨ kd = 3 ∨ kd = 4 ∨ kd = 5 ∨ kd = 6 ∨ kd = 7 ∨ kd = 8 ∨ kd = 9 ∨ (kd ≠ 1 ∧ kd ≠ 2 ∧ kd ≠ 3 ∧ kd ≠ 4 ∧ kd ≠ 5 ∧ kd ≠ 6 ∧ kd ≠ 7 ∧ kd ≠ 8 ∧ kd ≠ 9) := by omega
  clear hrb hlt hbx hall hb0 H hwA hgs hpr hpl hb ha hn hi
  go_enter Try.func8, Try.ntmps8
  refine orD10 hcase ?K1 ?K2 ?K3 ?K4 ?K5 ?K6 ?K7 ?K8 ?K9 ?K0
  case K3 =>
    rintro rfl
    clear hcase
    obtain ⟨r, hr⟩ : ∃ r, r = renM C a.data.toList b.data.toList := ⟨_, rfl⟩
    have h1 := both_rename HB.out (by omega) a b HA.out
    rw [← hr] at h1
    have h2 : ∀ w1, MidD w0 w1 (fun x => x = gs) g h C r.2 → Calls Try.prog 18 #[.pointer (some ⟨h, 0, none⟩), .string a, .string b] w1 fun e w' => e = .returned (.int .i64 r.1) ∧ BothD w0 w' (fun x => x = gs) g h r.2 (k + 1) := fun w1 hm => by
      rw [hr] at hm ⊢
      exact mid_rename a b hm HALL.out (by omega)
    have HC1 := Lib.hid h1
    have HC2 := Lib.hid h2
    clear h1 h2 hr
    obtain ⟨rv, C2⟩ := r
    go_wp2_with fail
    rw [← HW.out, ← HG.out]
    refine (HC1.out).mono ?_
    rintro e w1 ⟨rfl, hm, hkz, hsz⟩
    have e0 := cell_same d0 (hkz gs HLT.out (.inr rfl))
    have e1 := cell_same d1 (hkz gs HLT.out (.inr rfl))
    have e2 := cell_same d2 (hkz gs HLT.out (.inr rfl))
    have e3 := cell_same d3 (hkz gs HLT.out (.inr rfl))
    have e4 := cell_same d4 (hkz gs HLT.out (.inr rfl))
    have HM := Lib.hid (HC2.out w1 hm)
    clear hm hkz hsz d0 d1 d2 d3 d4 HC1 HC2
    go_wp2_with fail
    refine (HM.out).mono ?_
    rintro e w2 ⟨rfl, hf⟩
    have HF := Lib.hid hf
    clear hf e0 e1 e2 e3 e4 HM
    go_wp2_with fail
    go_ret3
    exact ⟨g, h, _, rfl, bothD_less HF.out (fun _ hx => hx.elim)⟩
  case K4 =>
    rintro rfl
    clear hcase
    obtain ⟨r, hr⟩ : ∃ r, r = truM C a.data.toList n := ⟨_, rfl⟩
    have h1 := both_trunc HB.out (by omega) a n HA.out
    rw [← hr] at h1
    have h2 : ∀ w1, MidD w0 w1 (fun x => x = gs) g h C r.2 → Calls Try.prog 20 #[.pointer (some ⟨h, 0, none⟩), .string a, .int .i64 n] w1 fun e w' => e = .returned (.int .i64 r.1) ∧ BothD w0 w' (fun x => x = gs) g h r.2 (k + 1) := fun w1 hm => by
      rw [hr] at hm ⊢
      exact mid_trunc a n HNN.out hm HALL.out (by omega)
    have HC1 := Lib.hid h1
    have HC2 := Lib.hid h2
    clear h1 h2 hr
    obtain ⟨rv, C2⟩ := r
    go_wp2_with fail
    rw [← HW.out, ← HG.out]
    refine (HC1.out).mono ?_
    rintro e w1 ⟨rfl, hm, hkz, hsz⟩
    have e0 := cell_same d0 (hkz gs HLT.out (.inr rfl))
    have e1 := cell_same d1 (hkz gs HLT.out (.inr rfl))
    have e2 := cell_same d2 (hkz gs HLT.out (.inr rfl))
    have e3 := cell_same d3 (hkz gs HLT.out (.inr rfl))
    have e4 := cell_same d4 (hkz gs HLT.out (.inr rfl))
    have HM := Lib.hid (HC2.out w1 hm)
    clear hm hkz hsz d0 d1 d2 d3 d4 HC1 HC2
    go_wp2_with fail
    refine (HM.out).mono ?_
    rintro e w2 ⟨rfl, hf⟩
    have HF := Lib.hid hf
    clear hf e0 e1 e2 e3 e4 HM
    go_wp2_with fail
    go_ret3
    exact ⟨g, h, _, rfl, bothD_less HF.out (fun _ hx => hx.elim)⟩
  case K5 =>
    rintro rfl
    clear hcase
    obtain ⟨r, hr⟩ : ∃ r, r = remM C a.data.toList := ⟨_, rfl⟩
    have h1 := both_remove HB.out (by omega) a HA.out
    rw [← hr] at h1
    have h2 : ∀ w1, MidD w0 w1 (fun x => x = gs) g h C r.2 → Calls Try.prog 22 #[.pointer (some ⟨h, 0, none⟩), .string a] w1 fun e w' => e = .returned (.int .i64 r.1) ∧ BothD w0 w' (fun x => x = gs) g h r.2 (k + 1) := fun w1 hm => by
      rw [hr] at hm ⊢
      exact mid_remove a hm HALL.out (by omega)
    have HC1 := Lib.hid h1
    have HC2 := Lib.hid h2
    clear h1 h2 hr
    obtain ⟨rv, C2⟩ := r
    go_wp2_with fail
    rw [← HW.out, ← HG.out]
    refine (HC1.out).mono ?_
    rintro e w1 ⟨rfl, hm, hkz, hsz⟩
    have e0 := cell_same d0 (hkz gs HLT.out (.inr rfl))
    have e1 := cell_same d1 (hkz gs HLT.out (.inr rfl))
    have e2 := cell_same d2 (hkz gs HLT.out (.inr rfl))
    have e3 := cell_same d3 (hkz gs HLT.out (.inr rfl))
    have e4 := cell_same d4 (hkz gs HLT.out (.inr rfl))
    have HM := Lib.hid (HC2.out w1 hm)
    clear hm hkz hsz d0 d1 d2 d3 d4 HC1 HC2
    go_wp2_with fail
    refine (HM.out).mono ?_
    rintro e w2 ⟨rfl, hf⟩
    have HF := Lib.hid hf
    clear hf e0 e1 e2 e3 e4 HM
    go_wp2_with fail
    go_ret3
    exact ⟨g, h, _, rfl, bothD_less HF.out (fun _ hx => hx.elim)⟩
  case K0 =>
    rintro ⟨n1, n2, n3, n4, n5, n6, n7, n8, n9⟩
    have q1 : (kd == 1) = false := beq_false_of_ne n1
    have q2 : (kd == 2) = false := beq_false_of_ne n2
    have q3 : (kd == 3) = false := beq_false_of_ne n3
    have q4 : (kd == 4) = false := beq_false_of_ne n4
    have q5 : (kd == 5) = false := beq_false_of_ne n5
    have q6 : (kd == 6) = false := beq_false_of_ne n6
    have q7 : (kd == 7) = false := beq_false_of_ne n7
    have q8 : (kd == 8) = false := beq_false_of_ne n8
    have q9 : (kd == 9) = false := beq_false_of_ne n9
    clear hcase n1 n2 n3 n4 n5 n6 n7 n8 n9
    go_wp2_with fail
    go_ret3
    refine ⟨g, h, C, rfl, ?_⟩
    rw [← HW.out]
    obtain ⟨Y, h1, h2, h3, h4⟩ := HB.out
    exact bothD_less ⟨Y, h1, h2, h3, call_more h4⟩ (fun _ hx => hx.elim)
  case K6 =>
    rintro rfl
    clear hcase
    have HC1 := Lib.hid (both_cutD HB.out n)
    have HC2 : Hid (∀ w1, MidD w0 w1 (fun x => x = gs) g h C (cutM C n) → Calls Try.prog 24 #[.pointer (some ⟨h, 0, none⟩), .int .i64 n] w1 fun e w' => e = .returned (.tuple #[]) ∧ BothD w0 w' (fun x => x = gs) g h (cutM C n) (k + 1)) := Lib.hid (fun w1 hm => mid_cutD n HNN.out hm HALL.out (by omega))
    go_wp2_with fail
    rw [← HW.out, ← HG.out]
    refine (HC1.out).mono ?_
    rintro e w1 ⟨rfl, hm, hkz, hsz⟩
    have e0 := cell_same d0 (hkz gs HLT.out (.inr rfl))
    have e1 := cell_same d1 (hkz gs HLT.out (.inr rfl))
    have e2 := cell_same d2 (hkz gs HLT.out (.inr rfl))
    have e3 := cell_same d3 (hkz gs HLT.out (.inr rfl))
    have e4 := cell_same d4 (hkz gs HLT.out (.inr rfl))
    have HM := Lib.hid (HC2.out w1 hm)
    clear hm hkz hsz d0 d1 d2 d3 d4 HC1 HC2
    go_wp2_with fail
    refine (HM.out).mono ?_
    rintro e w2 ⟨rfl, hf⟩
    have HF := Lib.hid hf
    clear hf e0 e1 e2 e3 e4 HM
    go_wp2_with fail
    go_ret3
    exact ⟨g, h, _, rfl, bothD_less HF.out (fun _ hx => hx.elim)⟩
  case K7 =>
    rintro rfl
    clear hcase
    have HC1 := Lib.hid (both_crashD HB.out (by omega) ps (.slice pa ps.length pc) (pickAt_below HPK.out (bothD_below HB.out)) HPR.out (by have := HPL.out; omega))
    go_wp2_with fail
    rw [← HW.out, ← HG.out]
    refine (HC1.out).mono ?_
    rintro e w1 ⟨g1, rfl, hb1, hcall⟩
    have e0 := cell_same d0 (hb1.block gs HLT.out)
    have e1 := cell_same d1 (hb1.block gs HLT.out)
    have e2 := cell_same d2 (hb1.block gs HLT.out)
    have e3 := cell_same d3 (hb1.block gs HLT.out)
    have e4 := cell_same d4 (hb1.block gs HLT.out)
    have HM := Lib.hid hcall
    clear hcall hb1 d0 d1 d2 d3 d4 HC1
    go_wp2_with fail
    refine (HM.out).mono ?_
    rintro e w2 ⟨h1, rfl, hf⟩
    have HF := Lib.hid hf
    clear hf e0 e1 e2 e3 e4 HM
    go_wp2_with fail
    go_ret3
    exact ⟨g1, h1, _, rfl, bothD_less HF.out (fun _ hx => hx.elim)⟩
  case K8 =>
    rintro rfl
    clear hcase
    have HC1 := Lib.hid (both_copyD HB.out (by omega))
    go_wp2_with fail
    rw [← HW.out, ← HG.out]
    refine (HC1.out).mono ?_
    rintro e w1 ⟨g1, rfl, hb1, hcall⟩
    have e0 := cell_same d0 (hb1.block gs HLT.out)
    have e1 := cell_same d1 (hb1.block gs HLT.out)
    have e2 := cell_same d2 (hb1.block gs HLT.out)
    have e3 := cell_same d3 (hb1.block gs HLT.out)
    have e4 := cell_same d4 (hb1.block gs HLT.out)
    have HM := Lib.hid hcall
    clear hcall hb1 d0 d1 d2 d3 d4 HC1
    go_wp2_with fail
    refine (HM.out).mono ?_
    rintro e w2 ⟨h1, rfl, hf⟩
    have HF := Lib.hid hf
    clear hf e0 e1 e2 e3 e4 HM
    go_wp2_with fail
    go_ret3
    exact ⟨g1, h1, _, rfl, bothD_less HF.out (fun _ hx => hx.elim)⟩
  case K2 =>
    rintro rfl
    clear hcase
    obtain ⟨r, hr⟩ : ∃ r, r = synM C [a] := ⟨_, rfl⟩
    have hgA : wA.heap.size = gs + 1 := by rw [HW.out, HG.out]; simp
    have hbn : Below wA.heap.size wA (wA.alloc (.cells #[.string a] 9)) := below_more (Below.refl _ _) _
    have hrow : Rw (wA.alloc (.cells #[.string a] 9)) 0 (gs + 1) 9 [.string a] := by rw [← hgA]; exact Rw.alloc wA _ _ (Nat.zero_le _)
    have hb2 : BothD w0 (wA.alloc (.cells #[.string a] 9)) (fun x => x = gs ∨ x = gs + 1) g h C k := bothD_less (bothD_new HB.out hbn) (fun x hx => hx.imp id (fun hx => by have := Rw.size hrow; omega))
    have h1 : Calls Try.prog 11 #[.pointer (some ⟨g, 0, none⟩), .slice (some ⟨gs + 1, 0, none⟩) 1 1] (wA.alloc (.cells #[.string a] 9)) fun e w' => e = .returned (.int .i64 (synM C [a]).1) ∧ MidD w0 w' (fun x => x = gs ∨ x = gs + 1) g h C (synM C [a]).2 ∧ (∀ k, k < (wA.alloc (.cells #[.string a] 9)).heap.size → (k < w0.heap.size ∨ (k = gs ∨ k = gs + 1)) → w'.heap[k]? = (wA.alloc (.cells #[.string a] 9)).heap[k]?) ∧ (wA.alloc (.cells #[.string a] 9)).heap.size ≤ w'.heap.size :=
      both_synD hb2 (by omega) [a] (gs + 1) 0 1 (.inr (.inr rfl)) (fun j s hj => by
        have hjl := (List.getElem?_eq_some_iff.1 hj).1
        rw [Nat.zero_add]
        refine Rw.cell hrow ?_
        match j, hj with
        | 0, hj => cases hj; rfl
        | j + 1, hj => simp at hj) (fun s hs => by simp at hs; rw [hs]; exact HA.out) (by simp)
    rw [← hr] at h1
    have h2 : ∀ w1, MidD w0 w1 (fun x => x = gs ∨ x = gs + 1) g h C r.2 → gs < w1.heap.size → Calls Try.prog 16 #[.pointer (some ⟨h, 0, none⟩), .slice (some ⟨w1.heap.size, 0, none⟩) 1 1] (w1.alloc (.cells #[.string a] 9)) fun e w' => e = .returned (.int .i64 r.1) ∧ BothD w0 w' (fun x => x = gs ∨ x = w1.heap.size) g h r.2 (k + 1) := fun w1 hm hl1 => by
      have hr2 : Rw (w1.alloc (.cells #[.string a] 9)) 0 w1.heap.size 9 [.string a] := Rw.alloc w1 _ _ (Nat.zero_le _)
      have hm2 := midD_less (Z' := fun x => x = gs ∨ x = w1.heap.size) (midD_new hm (below_more (Below.refl _ _) (.cells #[.string a] 9))) (fun x hx => hx.elim (fun hx => .inl (.inl hx)) (fun hx => .inr (by have := Rw.size hr2; omega)))
      rw [hr] at hm2 ⊢
      exact mid_synD [a] w1.heap.size 1 hm2 HALL.out (by omega) (by simp) (.inr (.inr rfl)) (fun j s hj => by
        refine Rw.cell hr2 ?_
        match j, hj with
        | 0, hj => cases hj; rfl
        | j + 1, hj => simp at hj) (by simp)
    have HC1 := Lib.hid h1
    have HC2 := Lib.hid h2
    have D0 := Rw.cell (Rw.below (show Rw wA 0 gs 36 _ from HRB.out) hbn) (j := 0) rfl
    have HRB1 := Lib.hid (Rw.below HRB.out hbn)
    have HL1 : Hid (gs < (wA.alloc (.cells #[.string a] 9)).heap.size) := Lib.hid (by have := HLT.out; have := hbn.size; omega)
    clear h1 h2 hr hbn hrow hb2 hgA D0
    obtain ⟨rv, C2⟩ := r
    go_wp2_with fail
    rw [← HW.out, ← HG.out]
    refine (HC1.out).mono ?_
    rintro e w1 ⟨rfl, hm, hkz, hsz⟩
    have e0 := cell_same (Rw.cell HRB1.out (j := 0) rfl) (hkz gs HL1.out (.inr (.inl rfl)))
    have e1 := cell_same (Rw.cell HRB1.out (j := 1) rfl) (hkz gs HL1.out (.inr (.inl rfl)))
    have e2 := cell_same (Rw.cell HRB1.out (j := 2) rfl) (hkz gs HL1.out (.inr (.inl rfl)))
    have e3 := cell_same (Rw.cell HRB1.out (j := 3) rfl) (hkz gs HL1.out (.inr (.inl rfl)))
    have e4 := cell_same (Rw.cell HRB1.out (j := 4) rfl) (hkz gs HL1.out (.inr (.inl rfl)))
    have HM := Lib.hid (HC2.out w1 hm (by have := HL1.out; omega))
    clear hm hkz hsz d0 d1 d2 d3 d4 HC1 HC2
    go_wp2_with fail
    refine (HM.out).mono ?_
    rintro e w2 ⟨rfl, hf⟩
    have HF := Lib.hid hf
    clear hf e0 e1 e2 e3 e4 HM
    go_wp2_with fail
    go_ret3
    exact ⟨g, h, _, rfl, bothD_less HF.out (fun _ hx => hx.elim)⟩
  case K9 =>
    rintro rfl
    clear hcase
    obtain ⟨r, hr⟩ : ∃ r, r = synM C [a, b] := ⟨_, rfl⟩
    have hgA : wA.heap.size = gs + 1 := by rw [HW.out, HG.out]; simp
    have hbn : Below wA.heap.size wA (wA.alloc (.cells #[.string a, .string b] 9)) := below_more (Below.refl _ _) _
    have hrow : Rw (wA.alloc (.cells #[.string a, .string b] 9)) 0 (gs + 1) 9 [.string a, .string b] := by rw [← hgA]; exact Rw.alloc wA _ _ (Nat.zero_le _)
    have hb2 : BothD w0 (wA.alloc (.cells #[.string a, .string b] 9)) (fun x => x = gs ∨ x = gs + 1) g h C k := bothD_less (bothD_new HB.out hbn) (fun x hx => hx.imp id (fun hx => by have := Rw.size hrow; omega))
    have h1 : Calls Try.prog 11 #[.pointer (some ⟨g, 0, none⟩), .slice (some ⟨gs + 1, 0, none⟩) 2 2] (wA.alloc (.cells #[.string a, .string b] 9)) fun e w' => e = .returned (.int .i64 (synM C [a, b]).1) ∧ MidD w0 w' (fun x => x = gs ∨ x = gs + 1) g h C (synM C [a, b]).2 ∧ (∀ k, k < (wA.alloc (.cells #[.string a, .string b] 9)).heap.size → (k < w0.heap.size ∨ (k = gs ∨ k = gs + 1)) → w'.heap[k]? = (wA.alloc (.cells #[.string a, .string b] 9)).heap[k]?) ∧ (wA.alloc (.cells #[.string a, .string b] 9)).heap.size ≤ w'.heap.size :=
      both_synD hb2 (by omega) [a, b] (gs + 1) 0 2 (.inr (.inr rfl)) (fun j s hj => by
        have hjl := (List.getElem?_eq_some_iff.1 hj).1
        rw [Nat.zero_add]
        refine Rw.cell hrow ?_
        match j, hj with
        | 0, hj => cases hj; rfl
        | 1, hj => cases hj; rfl
        | j + 2, hj => simp at hj) (fun s hs => by simp at hs; exact hs.elim (fun e => by rw [e]; exact HA.out) (fun e => by rw [e]; exact HBB.out)) (by simp)
    rw [← hr] at h1
    have h2 : ∀ w1, MidD w0 w1 (fun x => x = gs ∨ x = gs + 1) g h C r.2 → gs < w1.heap.size → Calls Try.prog 16 #[.pointer (some ⟨h, 0, none⟩), .slice (some ⟨w1.heap.size, 0, none⟩) 2 2] (w1.alloc (.cells #[.string a, .string b] 9)) fun e w' => e = .returned (.int .i64 r.1) ∧ BothD w0 w' (fun x => x = gs ∨ x = w1.heap.size) g h r.2 (k + 1) := fun w1 hm hl1 => by
      have hr2 : Rw (w1.alloc (.cells #[.string a, .string b] 9)) 0 w1.heap.size 9 [.string a, .string b] := Rw.alloc w1 _ _ (Nat.zero_le _)
      have hm2 := midD_less (Z' := fun x => x = gs ∨ x = w1.heap.size) (midD_new hm (below_more (Below.refl _ _) (.cells #[.string a, .string b] 9))) (fun x hx => hx.elim (fun hx => .inl (.inl hx)) (fun hx => .inr (by have := Rw.size hr2; omega)))
      rw [hr] at hm2 ⊢
      exact mid_synD [a, b] w1.heap.size 2 hm2 HALL.out (by omega) (by simp) (.inr (.inr rfl)) (fun j s hj => by
        refine Rw.cell hr2 ?_
        match j, hj with
        | 0, hj => cases hj; rfl
        | 1, hj => cases hj; rfl
        | j + 2, hj => simp at hj) (by simp)
    have HC1 := Lib.hid h1
    have HC2 := Lib.hid h2
    have D0 := Rw.cell (Rw.below (show Rw wA 0 gs 36 _ from HRB.out) hbn) (j := 0) rfl
    have HRB1 := Lib.hid (Rw.below HRB.out hbn)
    have HL1 : Hid (gs < (wA.alloc (.cells #[.string a, .string b] 9)).heap.size) := Lib.hid (by have := HLT.out; have := hbn.size; omega)
    clear h1 h2 hr hbn hrow hb2 hgA D0
    obtain ⟨rv, C2⟩ := r
    go_wp2_with fail
    rw [← HW.out, ← HG.out]
    refine (HC1.out).mono ?_
    rintro e w1 ⟨rfl, hm, hkz, hsz⟩
    have e0 := cell_same (Rw.cell HRB1.out (j := 0) rfl) (hkz gs HL1.out (.inr (.inl rfl)))
    have e1 := cell_same (Rw.cell HRB1.out (j := 1) rfl) (hkz gs HL1.out (.inr (.inl rfl)))
    have e2 := cell_same (Rw.cell HRB1.out (j := 2) rfl) (hkz gs HL1.out (.inr (.inl rfl)))
    have e3 := cell_same (Rw.cell HRB1.out (j := 3) rfl) (hkz gs HL1.out (.inr (.inl rfl)))
    have e4 := cell_same (Rw.cell HRB1.out (j := 4) rfl) (hkz gs HL1.out (.inr (.inl rfl)))
    have HM := Lib.hid (HC2.out w1 hm (by have := HL1.out; omega))
    clear hm hkz hsz d0 d1 d2 d3 d4 HC1 HC2
    go_wp2_with fail
    refine (HM.out).mono ?_
    rintro e w2 ⟨rfl, hf⟩
    have HF := Lib.hid hf
    clear hf e0 e1 e2 e3 e4 HM
    go_wp2_with fail
    go_ret3
    exact ⟨g, h, _, rfl, bothD_less HF.out (fun _ hx => hx.elim)⟩
  case K1 =>
    rintro rfl
    clear hcase
    obtain ⟨m, hm⟩ : ∃ m : Nat, max n 0 = (m : Int) := ⟨(max n 0).toNat, by omega⟩
    have hm3 : m ≤ 3000 := by omega
    have HBY := Lib.hid (dbytes_any n m i wA hm (by omega) (by omega))
    have HM3 := Lib.hid hm3
    have hmi : (m : Int) ≤ 3000 := by omega
    obtain ⟨q, hq⟩ : ∃ q, q = m / 2 := ⟨_, rfl⟩
    have hq1 : Int.tdiv (m : Int) 2 = (q : Int) := by rw [hq]; rfl
    have hqb : (q : Int) ≤ 3000 := by omega
    have HQ : Hid (q ≤ m) := Lib.hid (by rw [hq]; exact Nat.div_le_self _ _)
    clear hm hm3 hq
    go_wp2_with fail
    rw [← HW.out, ← HG.out]
    refine (HBY.out).mono ?_
    rintro e w1 ⟨gb, rfl, hob, hb1⟩
    have hgl := own_cap hob
    have hat := byAt_own hob
    obtain ⟨l, hl⟩ : ∃ l, l = byteL i m := ⟨_, rfl⟩
    have hll : m = l.length := by rw [hl, byteL_len]
    rw [← hl] at hat
    have e0 := cell_same d0 (hb1.block gs HLT.out)
    have e1 := cell_same d1 (hb1.block gs HLT.out)
    have e2 := cell_same d2 (hb1.block gs HLT.out)
    have e3 := cell_same d3 (hb1.block gs HLT.out)
    have e4 := cell_same d4 (hb1.block gs HLT.out)
    have hb2 : BothD w0 w1 (fun x => x = gs ∨ x = gb) g h C k := bothD_less (bothD_new HB.out hb1) (fun x hx => hx.imp id (fun hx => by rw [hx]; exact ⟨hgl.1, hgl.2.2⟩))
    have HL1 : Hid (gs < w1.heap.size ∧ gb < w1.heap.size) := Lib.hid ⟨by have := HLT.out; have := hb1.size; omega, hgl.2.2⟩
    have HAT := Lib.hid hat
    have HLL := Lib.hid hll
    have HB2 := Lib.hid hb2
    have HR1 := Lib.hid (Rw.below HRB.out hb1)
    have hs1 : ∀ W, (Instr.slice 40 (.slice (some ⟨gb, 0, none⟩) m m) none (some (.int .i64 (q : Int))) none).run Try.prog W = .ok (.slice (some ⟨gb, 0, none⟩) q m) W := fun W => by
      rw [run_slice_h W 40 (some ⟨gb, 0, none⟩) m m (by kernel_rfl) .i64 q (by omega) (by have := HQ.out; omega), run_size1 (by kernel_rfl)]
      simp [Result.andThen, sliced, Addr.add_mid]
    have hs2 : ∀ W, (Instr.slice 40 (.slice (some ⟨gb, 0, none⟩) m m) (some (.int .i64 (q : Int))) none none).run Try.prog W = .ok (.slice (if m = q then some ⟨gb, 0, none⟩ else some ⟨gb, 0 + q, none⟩) (m - q) (m - q)) W := fun W =>
      slice_from (by kernel_rfl) (by kernel_rfl) gb 0 m m q HQ.out W
    obtain ⟨ad, had⟩ : ∃ ad, ad = (if m = q then some (⟨gb, 0, none⟩ : Addr) else some ⟨gb, 0 + q, none⟩) := ⟨_, rfl⟩
    obtain ⟨M, hM⟩ : ∃ M, M = m - q := ⟨_, rfl⟩
    rw [← had, ← hM] at hs2
    have HAD := Lib.hid had
    have HMM := Lib.hid hM
    obtain ⟨r, hr⟩ : ∃ r, r = appM C a.data.toList l := ⟨_, rfl⟩
    have hbn : Below w1.heap.size w1 (w1.alloc (.cells #[.slice (some ⟨gb, 0, none⟩) q m, .slice ad M M] 40)).drew := below_draws (below_more (Below.refl _ _) _) ⟨1, rfl⟩
    have h1 : Calls Try.prog 10 #[.pointer (some ⟨g, 0, none⟩), .string a, .slice (some ⟨w1.heap.size, 0, none⟩) 2 2] (w1.alloc (.cells #[.slice (some ⟨gb, 0, none⟩) q m, .slice ad M M] 40)).drew fun e w' => e = .returned (.int .i64 r.1) ∧ MidD w0 w' (fun x => x = gs ∨ x = gb) g h C r.2 ∧ (∀ k, k < w1.heap.size → (k = gs ∨ k = gb) → w'.heap[k]? = w1.heap[k]?) ∧ w1.heap.size ≤ w'.heap.size := by
      obtain ⟨k0, k1⟩ := row_cells2 (w := w1) (e := 40) (x := .slice (some ⟨gb, 0, none⟩) q m) (y := .slice ad M M) rfl
      have hsz : w1.heap.size < (w1.alloc (.cells #[.slice (some ⟨gb, 0, none⟩) q m, .slice ad M M] 40)).drew.heap.size := block_of_cell (show (w1.alloc (.cells #[.slice (some ⟨gb, 0, none⟩) q m, .slice ad M M] 40)).drew.cell? ⟨w1.heap.size, 0, none⟩ = _ from k0)
      have hb3 : BothD w0 (w1.alloc (.cells #[.slice (some ⟨gb, 0, none⟩) q m, .slice ad M M] 40)).drew (fun x => (x = gs ∨ x = gb) ∨ x = w1.heap.size) g h C k := bothD_less (bothD_new hb2 hbn) (fun x hx => hx.imp id (fun hx => by rw [hx]; exact ⟨Nat.le_refl _, hsz⟩))
      have h2 := both_appD hb3 (by omega) a [l.take q, l.drop q] (.slice (some ⟨w1.heap.size, 0, none⟩) 2 2) (two_parts (byAt_keepD hat (hbn.block gb hgl.2.2)) hll HQ.out hM had (.inr (.inl (.inr rfl))) (.inr (.inr rfl)) k0 k1) (by simp only [List.flatten_cons, List.flatten_nil, List.append_nil, List.take_append_drop]; omega) (by simp)
      have e9 : [l.take q, l.drop q].flatten = l := by simp only [List.flatten_cons, List.flatten_nil, List.append_nil, List.take_append_drop]
      rw [e9, ← hr] at h2
      refine h2.mono ?_
      rintro e w' ⟨he, hm, hk1, hk2⟩
      exact ⟨he, midD_less hm (fun x hx => .inl hx), fun k hlt hz => (hk1 k (Nat.lt_of_lt_of_le hlt hbn.size) (.inr (.inl hz))).trans (hbn.block k hlt), Nat.le_trans hbn.size hk2⟩
    have h2 : ∀ w2, MidD w0 w2 (fun x => x = gs ∨ x = gb) g h C r.2 → w2.heap[gb]? = w1.heap[gb]? → Calls Try.prog 15 #[.pointer (some ⟨h, 0, none⟩), .string a, .slice (some ⟨gb, 0, none⟩) m m] w2 fun e w' => e = .returned (.int .i64 r.1) ∧ BothD w0 w' (fun x => x = gs ∨ x = gb) g h r.2 (k + 1) := fun w2 hm hsame => by
      rw [hr] at hm ⊢
      exact mid_appD a l (.slice (some ⟨gb, 0, none⟩) m m) hm HALL.out (by omega) (.inr ⟨_, m, by rw [hll], by rw [← hll]; exact Nat.le_refl _, .inr ⟨gb, 0, rfl, .inr (.inr rfl), byAt_keepD hat hsame⟩⟩) (by rw [← hll]; have := HM3.out; omega)
    have HC1 := Lib.hid h1
    have HC2 := Lib.hid h2
    have hen : Enters Try.prog 10 := enters_of Try.func10 (by kernel_rfl) rfl
    clear hgl hat hl hll hb2 had hM hbn h1 h2 hr hob hb1 d0 d1 d2 d3 d4
    obtain ⟨rv, C2⟩ := r
    go_wp2_with fail
    have f1 : (w1.alloc (.cells #[.slice (some ⟨gb, 0, none⟩) q m, .slice ad M M] 40)).drew.cell? ⟨gs, 1, none⟩ = some (.string a) := kcell_moreR e1 _
    have E1 := Lib.hid e1
    clear e0 e2 e3 e4
    go_region_held3 (fun W => W.cell? ⟨gs, 1, none⟩ = some (.string a))
      (first | exact e1 | exact f1 | exact f2)
      (first
        | (go_at_call 10; ((with_reducible refine (HC1.out).mono ?_); rintro e w2 ⟨rfl, hm, hkz, hsz⟩); have f2 : w2.cell? ⟨gs, 1, none⟩ = some (.string a) := cell_same E1.out (hkz gs HL1.out.1 (.inl rfl)); have HM := Lib.hid (HC2.out w2 hm (hkz gb HL1.out.2 (.inr rfl))); clear hm hkz hsz))
    clear e1 f1 HC1 HC2
    go_wp2_with fail
    refine (HM.out).mono ?_
    rintro e w3 ⟨rfl, hf⟩
    have HF := Lib.hid hf
    clear hf f2 HM
    go_wp2_with fail
    go_ret3
    exact ⟨g, h, _, rfl, bothD_less HF.out (fun _ hx => hx.elim)⟩

/-- What small tells: steps that it lets through are few and short. -/
def SmallV (ss : List StepD) (t : Bool) : Prop := t = true → ss.length ≤ 100 ∧ ∀ s ∈ ss, s.n ≤ 3000

def SmallR (ss : List StepD) (w w' : World) (e : Ending) : Prop := ∃ t, e = .returned (.bool t) ∧ SmallV ss t ∧ ∃ m, w' = w.drewN m

set_option maxRecDepth 100000 in
set_option maxHeartbeats 8000000 in
theorem dsmall_any (v : Value) (ss : List StepD) (w : World) (hs : DStepsZ w v ss) :
    Calls Try.prog 4 #[v] w fun e w' => SmallR ss w w' e := by
  obtain ⟨A, Cc, rfl, hmax, hin⟩ := hs
  obtain ⟨n, hnn⟩ : ∃ n, n = ss.length := ⟨_, rfl⟩
  rw [← hnn] at hmax ⊢
  have HN := Lib.hid hnn
  have HIN := Lib.hid hin
  have HMX := Lib.hid hmax
  clear hnn hin hmax
  go_enter Try.func4, Try.ntmps4
  go_wp2_with fail
  go_loopw [3, 4] (fun zv iv wr => ∃ (k : Nat) (z : Int), k ≤ n ∧ iv = .int .i64 k ∧ zv = .int .i64 z ∧ Hid (∃ m, wr = w.drewN m) ∧ Hid (∀ (j : Nat) (s : StepD), j < k → ss[j]? = some s → s.n ≤ 3000)) (fun _ iv _ => n - (intOf iv).toNat)
  case atStart => exact ⟨0, 0, Nat.zero_le _, rfl, rfl, Lib.hid ⟨0, rfl⟩, Lib.hid (fun j s hj => absurd hj (Nat.not_lt_zero _))⟩
  case round =>
    obtain ⟨k, z, hk, rfl, rfl, HD, HA⟩ := hrel
    obtain ⟨w3, hw3⟩ : ∃ w3 : World, w3 = wr := ⟨_, rfl⟩
    subst hw3
    by_cases hlt : k < n
    · obtain ⟨⟨kd, a, b, nn, ps⟩, hs⟩ : ∃ s, ss[k]? = some s := ⟨_, List.getElem?_eq_getElem (by rw [← HN.out]; exact hlt)⟩
      obtain ⟨bb, o, rfl, _, hrow⟩ := HIN.out.resolve_left (fun e => by rw [e] at hs; simp at hs)
      obtain ⟨pv, hrg, hok⟩ := hrow k _ hs
      obtain ⟨pa, pc, hpv, hpc⟩ := hok.pick
      dsimp only at hpv
      subst hpv
      have hsame : ∀ j x, w.cell? ⟨bb, j, none⟩ = some x → w3.cell? ⟨bb, j, none⟩ = some x := fun j x hx => by
        obtain ⟨m, rfl⟩ := HD.out
        simpa using hx
      have c1 := hsame _ _ (hrg 1 (.string a) rfl)
      have c2 := hsame _ _ (hrg 2 (.string b) rfl)
      have c3 := hsame _ _ (hrg 3 (.int .i64 nn) rfl)
      have c4 := hsame _ _ (hrg 4 (.slice pa ps.length pc) rfl)
      have hy : (k : Int) < (n : Int) := by omega
      have hkb : (k : Int) + 1 ≤ 9223372036854775807 := by have := HMX.out; unfold maxLen at this; omega
      have HKL := Lib.hid hlt
      have HS := Lib.hid hs
      obtain ⟨pl, hpl⟩ : ∃ pl, pl = ps.length := ⟨_, rfl⟩
      rw [← hpl] at c4
      have HPL := Lib.hid hpl
      have HNI : Hid (IntOk nn) := Lib.hid hok.n
      clear hsame hrg hok hrow hlt hk hs hpl hpc
      by_cases h3 : 3000 < nn
      · go_wp2_with fail
        go_ret
        exact ⟨false, rfl, fun h => (by cases h), HD.out⟩
      · have HA2 : Hid (∀ (j : Nat) (s : StepD), j < k + 1 → ss[j]? = some s → s.n ≤ 3000) := Lib.hid (fun j s hj hs => by
          rcases (by omega : j < k ∨ j = k) with h | h
          · exact HA.out j s h hs
          · subst h
            have := HS.out
            rw [this] at hs
            cases hs
            show nn ≤ 3000
            omega)
        clear HA
        go_wp2_with fail
        go_quiet (fail)
        generalize hw4 : World.drewN w3 _ = w4
        have HD4 : Hid (∃ m, w4 = w.drewN m) := Lib.hid (by rw [← hw4]; exact drewN_more HD.out _)
        clear hw4
        go_wp2_with fail
        go_roundw
        case rel => have := HKL.out; exact ⟨k + 1, _, by omega, by go_num, rfl, HD4, HA2⟩
        case measure => have := HKL.out; simp [intOf]; omega
    · have hyk : ¬ (k : Int) < (n : Int) := by omega
      have HKN : Hid (k = n) := Lib.hid (by omega)
      clear hlt hk
      by_cases h100 : n ≤ 100
      · have h1 : (n : Int) ≤ 100 := by omega
        have HT : Hid (ss.length ≤ 100 ∧ ∀ s ∈ ss, s.n ≤ 3000) := Lib.hid ⟨by rw [← HN.out]; exact h100, fun s hs => by
          obtain ⟨j, hj⟩ := List.mem_iff_getElem?.1 hs
          exact HA.out j s (by have := (List.getElem?_eq_some_iff.1 hj).1; rw [HKN.out, HN.out]; exact this) hj⟩
        clear h100
        by_cases hz : z ≤ 60000
        · go_wp2_with fail
          go_ret
          exact ⟨true, rfl, fun _ => HT.out, HD.out⟩
        · go_wp2_with fail
          go_ret
          exact ⟨false, rfl, fun h => (by cases h), HD.out⟩
      · have h1 : ¬ (n : Int) ≤ 100 := by omega
        clear h100
        go_wp2_with fail
        go_ret
        exact ⟨false, rfl, fun h => (by cases h), HD.out⟩

end Go.Proofs.Ytfiocghgjjandaa
