/-
  NetClears: for every row of numbers and every node, clearing the node loses what comes from it and goes to it, and nothing else; the law returns true, and what was there has not turned. No condition.
-/
import Derived.BigRegion
import Derived.Deep.RegionHeld3
import Derived.Deep.AppendLies
import Derived.Test.YtmchdfdpajobfaaProg
import Derived.Test.YtmchdfdpajobfaaKit
import Derived.Test.YtmchdfdpajobfaaLaw
import Derived.Test.YtmchdfdpajobfaaInfo
import Derived.Test.YtmchdfdpajobfaaRow
import Derived.Test.YtmchdfdpajobfaaCod5
import Derived.Test.YtmchdfdpajobfaaCod7
import Derived.Test.YtmchdfdpajobfaaFrm4
import Derived.Test.YtmchdfdpajobfaaFrm11
import Derived.Test.YtmchdfdpajobfaaDsk14
import Derived.Test.YtmchdfdpajobfaaDsk20
import Derived.Test.YtmchdfdpajobfaaNet0
import Derived.Test.YtmchdfdpajobfaaNet1
import Derived.Test.YtmchdfdpajobfaaNet12
import Derived.Test.YtmchdfdpajobfaaNet13
import Derived.Test.YtmchdfdpajobfaaNet14
import Derived.Test.YtmchdfdpajobfaaNet17
namespace Go.Proofs.Ytmchdfdpajobfaa
open Go.ChangeShapes Go.WideShapes Go.ChangeAt Go.RowKit Go.Proofs
open Go.ChangeMaps (open_string shut_string)

theorem nin_grown {w0 w w' : World} {Z : Nat → Prop} {g : Nat} {ps : List PkM} {row : Option Nat} (h : NIn w0 w Z g ps) (hg : w.grownBy w' row) (hr : ∀ k, row = some k → Z k ∧ w0.heap.size ≤ k) : NIn w0 w' (fun k => Z k ∨ (w.heap.size ≤ k ∧ k < w'.heap.size)) g ps := by
  obtain ⟨v, rs, h1, h2, h3, h4, h5, h6⟩ := h
  refine ⟨v, rs, netAt_same h1 (fun k hk => hg.block k (netAt_lt h1 hk) (fun e => (h6 k (hr k e.symm).1).2.1 hk)) (fun r hrr k hk => hg.block k (own_lt (h1.2.2 r hrr).1 hk) (fun e => (h6 k (hr k e.symm).1).2.2 r hrr hk)), h2, h3, h4, ?_, fun k hk => ?_⟩
  · exact h5.grown hg h5.size (fun k hk => (hr k hk).2)
  · rcases hk with hk | hk
    · exact ⟨Nat.lt_of_lt_of_le (h6 k hk).1 hg.size, (h6 k hk).2⟩
    · exact ⟨hk.2, fun hf => by have := netAt_lt h1 hf; omega, fun r hrr hu => by have := own_lt (h1.2.2 r hrr).1 hu; omega⟩

theorem nin_lit2 {w0 w : World} {Z : Nat → Prop} {g : Nat} {ps : List PkM} (h : NIn w0 w Z g ps) (f t : Int) (x : UInt8) (e e2 : TypeId) (f1 f2 : Nat × Nat) (b b2 : Nat) (xv : Value) (hx : xv = byteV x) (hb : b = w.heap.size) (hb2 : b2 = w.heap.size + 1) (hl : ps.length < 64) (ht : travB ⟨f, t, [x]⟩ = true) :
    Calls Try.prog 35 #[.pointer (some ⟨g, 0, none⟩), .slice (some ⟨b2, 0, none⟩) 1 1] ((w.alloc (.cells #[xv] e f1)).alloc (.cells #[.int .i64 f, .int .i64 t, .slice (some ⟨b, 0, none⟩) 1 1] e2 f2)) fun e w' => e = .returned (.int .i64 1) ∧ NIn w0 w' Z g (ps ++ [⟨f, t, [x]⟩]) ∧ ∀ k, k < w.heap.size → Z k → w'.heap[k]? = w.heap[k]? := by
  subst hx
  have hbb : Below w.heap.size w ((w.alloc (.cells #[byteV x] e f1)).alloc (.cells #[.int .i64 f, .int .i64 t, .slice (some ⟨b, 0, none⟩) 1 1] e2 f2)) := below_more (below_more (Below.refl _ _) _) _
  have hs := nin_send h hbb (lit_pk f t x e e2 f1 f2 b b2 hb hb2 (.inr (by omega)) (.inr (by omega))) (by simp) (by omega)
  rw [sendM_one hl ht] at hs
  refine hs.mono ?_
  rintro e w' ⟨rfl, h1, h2⟩
  exact ⟨rfl, h1, fun k hk hZ => (h2.1 k hZ).trans (hbb.block k hk)⟩

theorem leftM_snoc (k : Int) (ps : List PkM) (p : PkM) : leftM k (ps ++ [p]) = leftM k ps ++ (if isM k p then [] else [p]) := by
  unfold leftM
  rw [List.filter_append]
  congr 1
  cases h : isM k p <;> simp [h]

/-- What stands in a round: so many lost, so many left, with these bytes. -/
def ClrB (k : Int) (ps : List PkM) (n : Nat) (ys : List UInt8) : Prop := n + ys.length = ps.length ∧ (leftM k ps).map (·.b) = ys.map (fun y => [y])

theorem clrB_len {k : Int} {ps : List PkM} {n : Nat} {ys : List UInt8} (h : ClrB k ps n ys) : (leftM k ps).length = ys.length := by
  have := congrArg List.length h.2
  simpa using this

theorem clrB_lost {k : Int} {ps : List PkM} {n : Nat} {ys : List UInt8} {p : PkM} (h : ClrB k ps n ys) (hp : isM k p = true) : ClrB k (ps ++ [p]) (n + 1) ys := by
  refine ⟨by rw [List.length_append]; have := h.1; simp; omega, ?_⟩
  rw [leftM_snoc, if_pos hp, List.append_nil]
  exact h.2

theorem clrB_left {k : Int} {ps : List PkM} {n : Nat} {ys : List UInt8} {f t : Int} {x : UInt8} (h : ClrB k ps n ys) (hp : isM k ⟨f, t, [x]⟩ = false) : ClrB k (ps ++ [⟨f, t, [x]⟩]) n (ys ++ [x]) := by
  refine ⟨by rw [List.length_append, List.length_append]; have := h.1; simp; omega, ?_⟩
  rw [leftM_snoc, if_neg (by rw [hp]; decide), List.map_append, List.map_append, h.2]
  rfl

theorem clrB_at {k : Int} {ps : List PkM} {n : Nat} {ys : List UInt8} (h : ClrB k ps n ys) {i : Nat} {y : UInt8} (hy : ys[i]? = some y) : ∃ p, (leftM k ps)[i]? = some p ∧ p.b = [y] ∧ (p.f == k) = false ∧ (p.t == k) = false := by
  have hl := clrB_len h
  have hil := (List.getElem?_eq_some_iff.1 hy).1
  obtain ⟨p, hp⟩ : ∃ p, (leftM k ps)[i]? = some p := ⟨_, List.getElem?_eq_getElem (by omega)⟩
  have h2 := congrArg (fun l => l[i]?) h.2
  simp only [List.getElem?_map, hp, hy, Option.map_some, Option.some.injEq] at h2
  have hm : p ∈ leftM k ps := List.mem_of_getElem? hp
  unfold leftM at hm
  have h3 := (List.mem_filter.1 hm).2
  unfold isM at h3
  simp only [Bool.not_or, Bool.and_eq_true, Bool.not_eq_true'] at h3
  exact ⟨p, hp, h2, h3.1, h3.2⟩

set_option maxRecDepth 100000 in
set_option maxHeartbeats 4000000 in
theorem netClears_any (ov : Value) (os : List Int) (w : World) (ho : PickAt w ov os) (hri : RangeI os) (node : Int) (_hnd : -9223372036854775808 ≤ node ∧ node ≤ 9223372036854775807) :
    Calls Try.prog 12 #[ov, .int .i64 node] w fun e w' => e = .returned (.bool true) ∧ Below w.heap.size w w' := by
  have HAW := Lib.hid (nawake_any w)
  obtain ⟨oa, oc, rfl, _, hoc⟩ := ho
  obtain ⟨m, hm⟩ : ∃ m, m = os.length := ⟨_, rfl⟩
  rw [← hm]
  have HM := Lib.hid hm
  have HOC := Lib.hid hoc
  have HRI := Lib.hid hri
  clear hm hoc hri
  by_cases hbad : (60 : Int) < (m : Int) ∨ node < 1 ∨ 9 < node
  · clear _hnd
    rcases Classical.em ((60 : Int) < (m : Int)) with h1 | h1
    · clear hbad
      go_enter Try.func12, Try.ntmps12
      go_wp2_with fail
      refine (HAW.out).mono ?_
      rintro e w1 ⟨rfl, hb⟩
      have HB := Lib.hid hb
      clear hb
      go_wp2_with fail
      go_ret
      exact ⟨rfl, HB.out⟩
    · rcases Classical.em (node < 1) with h2 | h2
      · clear hbad
        go_enter Try.func12, Try.ntmps12
        go_wp2_with fail
        refine (HAW.out).mono ?_
        rintro e w1 ⟨rfl, hb⟩
        have HB := Lib.hid hb
        clear hb
        go_wp2_with fail
        go_ret
        exact ⟨rfl, HB.out⟩
      · have h3 : 9 < node := (hbad.resolve_left h1).resolve_left h2
        clear hbad
        go_enter Try.func12, Try.ntmps12
        go_wp2_with fail
        refine (HAW.out).mono ?_
        rintro e w1 ⟨rfl, hb⟩
        have HB := Lib.hid hb
        clear hb
        go_wp2_with fail
        go_ret
        exact ⟨rfl, HB.out⟩
  have h1 : ¬ (60 : Int) < (m : Int) := fun h => hbad (.inl h)
  have h2 : ¬ node < 1 := fun h => hbad (.inr (.inl h))
  have h3 : ¬ 9 < node := fun h => hbad (.inr (.inr h))
  have HMB : Hid (m ≤ 60) := Lib.hid (by omega)
  obtain ⟨i0, hi, hz0, hzz1, hz2⟩ := info_parts Try.infoByte
  clear hbad _hnd HAW
  go_enter Try.func12, Try.ntmps12
  go_wp2_with fail
  refine (nnew_any w).mono ?_
  rintro e w1 ⟨rfl, hw1⟩
  have hn1 := nin_new w
  rw [← hw1] at hn1
  obtain ⟨g, hg⟩ : ∃ g, g = w.heap.size := ⟨_, rfl⟩
  rw [← hg] at hn1 ⊢
  have HN1 : Hid (NIn w w1 (fun k => (Value.slice none 0 0).ownBlock = some k) g []) := Lib.hid (nin_less hn1 (fun k hk => by simp [Value.ownBlock] at hk))
  clear hw1 hn1 hg
  go_wp2_with fail
  go_loopw [6, 7, 8] (fun nv lv iv wr => ∃ (i n : Nat) (ps : List PkM) (ys : List UInt8) (q : Nat) (la : Option Addr) (lc : Nat), i ≤ m ∧ iv = .int .i64 i ∧ nv = .int .i64 n ∧ lv = .slice la q lc ∧ Hid (q = ys.length) ∧ Hid (ps.length = i) ∧ Hid (ClrB node ps n ys) ∧ Hid (NIn w wr (fun k => (Value.slice la q lc).ownBlock = some k) g ps) ∧ Hid (wr.ownsRow w.heap.size 5 1 (.slice la q lc) q (ys.map byteV))) (fun _ _ iv _ => m - (intOf iv).toNat)
  case atStart => exact ⟨0, 0, [], [], 0, none, 0, Nat.zero_le _, rfl, rfl, rfl, Lib.hid rfl, Lib.hid rfl, Lib.hid ⟨rfl, rfl⟩, HN1, Lib.hid (World.ownsRow_nil _ _ _ _)⟩
  case round =>
    obtain ⟨i, n, ps, ys, q, la, lc, hi', rfl, rfl, rfl, HQ, HPL, HC, HR, HO⟩ := hrel
    obtain ⟨w2, hw2⟩ : ∃ w2 : World, w2 = wr := ⟨_, rfl⟩
    subst hw2
    by_cases hlt : i < m
    · obtain ⟨y, hy2⟩ : ∃ y, os[i]? = some y := ⟨_, List.getElem?_eq_getElem (by rw [← HM.out]; exact hlt)⟩
      obtain ⟨ob, oo, rfl, hoc⟩ := HOC.out.resolve_left (fun e => by rw [e] at hy2; simp at hy2)
      have hcy0 := hoc i y hy2
      have hcy : w2.cell? ⟨ob, oo + i, none⟩ = some (.int .i64 y) := by rw [(nin_all HR.out).cell (block_of_cell hcy0)]; exact hcy0
      have hyr := HRI.out.1 y (List.mem_of_getElem? hy2)
      have HRO := Lib.hid (round_any y 9 w2 hyr (by omega))
      have HRO2 := Lib.hid (round_any (wrap64 (Int.tdiv y 9)) 8 w2 (by unfold wrap64; omega) (by omega))
      have hio2 : (i : Int) < (m : Int) := by omega
      have hi60 : (i : Int) < 60 := by have := HMB.out; omega
      have HJ := Lib.hid hlt
      clear hoc hcy0 hyr hy2 hlt hi'
      go_wp2_with fail
      refine (HRO.out).mono ?_
      rintro e w5 ⟨⟨r1, hr1, rfl⟩, hw5⟩
      cases hw5
      have hr1' : (r1 : Int) < 9 := by omega
      go_wp2_with fail
      refine (HRO2.out).mono ?_
      rintro e w5 ⟨⟨r2, hr2, rfl⟩, hw5⟩
      cases hw5
      have hr2' : (r2 : Int) < 8 := by omega
      obtain ⟨T, hT⟩ : ∃ T : Nat, T = (1 + r1 + r2) % 9 := ⟨_, rfl⟩
      have hT9 : (T : Int) < 9 := by omega
      have hmod : ((1 : Int) + (r1 : Int) + (r2 : Int)) % 9 = (T : Int) := by omega
      have hne : ((1 : Int) + (r1 : Int) == 1 + (T : Int)) = false := by rw [beq_eq_false_iff_ne]; omega
      have HTR : Hid (travB ⟨1 + (r1 : Int), 1 + (T : Int), [UInt8.ofNat i]⟩ = true) := Lib.hid (by
        unfold travB nodeB
        simp only [Bool.and_eq_true, decide_eq_true_eq]
        omega)
      clear hT hr1 hr2 HRO HRO2 hcy
      go_wp2_with fail
      have hx : Value.int .u8 (i : Int) = byteV (UInt8.ofNat i) := by
        unfold byteV
        rw [UInt8.toNat_ofNat', Nat.mod_eq_of_lt (by omega)]
      have hlt2 := nin_lit2 HR.out (1 + (r1 : Int)) (1 + (T : Int)) (UInt8.ofNat i) 5 71 (0, 0) (0, 0) w2.heap.size (w2.heap.size + 1) (.int .u8 (i : Int)) hx rfl rfl (by rw [HPL.out]; omega) HTR.out
      have HLT := Lib.hid hlt2
      have HX := Lib.hid hx
      have hn60 : (n : Int) < 60 := by have := HC.out.1; have := HPL.out; omega
      have HQ60 : Hid (q < 60) := Lib.hid (by have := HC.out.1; have := HPL.out; have := HQ.out; omega)
      clear hlt2 hx hmod
      cases hq1 : ((1 : Int) + (r1 : Int) == node) with
      | true =>
        have HISM : Hid (isM node ⟨1 + (r1 : Int), 1 + (T : Int), [UInt8.ofNat i]⟩ = true) := Lib.hid (by unfold isM; dsimp only; rw [hq1]; rfl)
        have HC2 := Lib.hid (clrB_lost (p := ⟨1 + (r1 : Int), 1 + (T : Int), [UInt8.ofNat i]⟩) HC.out HISM.out)
        refine (HLT.out).mono ?_
        rintro e w3 ⟨rfl, hn3, hst3⟩
        have HN3 := Lib.hid hn3
        have HO3 := Lib.hid (own_same HO.out (fun k hk => hst3 k (own_lt HO.out hk) hk))
        clear hn3 hst3
        go_wp2_with fail
        go_roundw
        case rel =>
          have := HJ.out
          refine ⟨i + 1, n + 1, ps ++ [⟨1 + (r1 : Int), 1 + (T : Int), [UInt8.ofNat i]⟩], ys, q, la, lc, by omega, by go_num, by go_num, rfl, HQ, Lib.hid (by rw [List.length_append, HPL.out]; rfl), HC2, HN3, HO3⟩
        case measure => have := HJ.out; simp [intOf]; omega
      | false =>
        cases hq2 : ((1 : Int) + (T : Int) == node) with
        | true =>
          have HISM : Hid (isM node ⟨1 + (r1 : Int), 1 + (T : Int), [UInt8.ofNat i]⟩ = true) := Lib.hid (by unfold isM; dsimp only; rw [hq1, hq2]; rfl)
          have HC2 := Lib.hid (clrB_lost (p := ⟨1 + (r1 : Int), 1 + (T : Int), [UInt8.ofNat i]⟩) HC.out HISM.out)
          refine (HLT.out).mono ?_
          rintro e w3 ⟨rfl, hn3, hst3⟩
          have HN3 := Lib.hid hn3
          have HO3 := Lib.hid (own_same HO.out (fun k hk => hst3 k (own_lt HO.out hk) hk))
          clear hn3 hst3
          go_wp2_with fail
          go_roundw
          case rel =>
            have := HJ.out
            refine ⟨i + 1, n + 1, ps ++ [⟨1 + (r1 : Int), 1 + (T : Int), [UInt8.ofNat i]⟩], ys, q, la, lc, by omega, by go_num, by go_num, rfl, HQ, Lib.hid (by rw [List.length_append, HPL.out]; rfl), HC2, HN3, HO3⟩
          case measure => have := HJ.out; simp [intOf]; omega
        | false =>
          have HISM : Hid (isM node ⟨1 + (r1 : Int), 1 + (T : Int), [UInt8.ofNat i]⟩ = false) := Lib.hid (by unfold isM; dsimp only; rw [hq1, hq2]; rfl)
          have HC2 := Lib.hid (clrB_left HC.out HISM.out)
          refine (HLT.out).mono ?_
          rintro e w3 ⟨rfl, hn3, hst3⟩
          have HN3 := Lib.hid hn3
          have HO3 := Lib.hid (own_same HO.out (fun k hk => hst3 k (own_lt HO.out hk) hk))
          have H03 : Hid (w.heap.size ≤ (w3.alloc (.cells #[.int .u8 (i : Int)] 5)).heap.size) := Lib.hid (by have := (nin_all hn3).size; simp; omega)
          have HMX : Hid (q + 1 ≤ maxLen) := Lib.hid (by have := HQ60.out; unfold maxLen; omega)
          have HBT : Hid ((q + 1) * 1 ≤ 140737488355328) := Lib.hid (by have := HQ60.out; omega)
          clear hn3 hst3
          go_wp2_with (first | (refine wpList_append_lies _ rfl (.tmp 72) (.tmp 75) 39 rfl w.heap.size 5 i0 (.int .u8 0) 1 1 Try.underlying39 hi hz0 hzz1 hz2 rfl (by decide) (.slice la q lc) q (ys.map byteV) rfl ((HO3.out).alloc _) ⟨w3.heap.size, 0, none⟩ 1 1 [.int .u8 (i : Int)] rfl rfl (World.news_of_block (heap_alloc_new w3 _)) (by simp [Value.oneCell']) (by decide) HMX.out HBT.out H03.out (w3.heap.size + 1) (by simp) ?_; intro gg cap w4 hown4 hgrow hat hlt4) | fail)
          have HN4 : Hid (NIn w w4 (fun k => (Value.slice (some ⟨gg, 0, none⟩) (q + 1) cap).ownBlock = some k) g (ps ++ [⟨1 + (r1 : Int), 1 + (T : Int), [UInt8.ofNat i]⟩])) := Lib.hid (by
            refine nin_less (nin_grown (nin_less (Z' := fun k => (Value.slice la q lc).ownBlock = some k) (nin_below HN3.out (below_more (Below.refl _ _) (.cells #[.int .u8 (i : Int)] 5))) (fun k hk => .inl hk)) hgrow (fun k hk => ⟨hk, (World.ownsRow.lt HO3.out k hk).1⟩)) (fun k hk => ?_)
            simp only [Value.ownBlock, Option.some.injEq] at hk
            subst hk
            rcases hat with h | h
            · exact .inl h
            · exact .inr ⟨by simp; omega, hlt4⟩)
          have HO4 : Hid (w4.ownsRow w.heap.size 5 1 (.slice (some ⟨gg, 0, none⟩) (q + 1) cap) (q + 1) ((ys ++ [UInt8.ofNat i]).map byteV)) := Lib.hid (by
            rw [List.map_append]
            rw [HX.out] at hown4
            exact hown4)
          clear hown4 hgrow hat hlt4
          go_wp2_with fail
          go_roundw
          case rel =>
            have := HJ.out
            refine ⟨i + 1, n, ps ++ [⟨1 + (r1 : Int), 1 + (T : Int), [UInt8.ofNat i]⟩], ys ++ [UInt8.ofNat i], q + 1, some ⟨gg, 0, none⟩, cap, by omega, by go_num, rfl, rfl, Lib.hid (by rw [List.length_append, HQ.out]; rfl), Lib.hid (by rw [List.length_append, HPL.out]; rfl), HC2, HN4, HO4⟩
          case measure => have := HJ.out; simp [intOf]; omega
    · have hyi : ¬ (i : Int) < (m : Int) := by omega
      have HPB : Hid (ps.length ≤ 60) := Lib.hid (by rw [HPL.out]; have := HMB.out; omega)
      have hcl := nin_clear HR.out node (by have := HPB.out; omega)
      have HCL := Lib.hid hcl
      clear hcl hlt hi'
      go_wp2_with fail
      refine (HCL.out).mono ?_
      rintro e w3 ⟨⟨qc, rfl, hqc⟩, hn3, hst3⟩
      have hqn : qc = n := by have := HC.out.1; have := clrB_len HC.out; omega
      subst hqn
      have hO3 := own_same HO.out (fun k hk => hst3.1 k hk)
      have hln := nin_len hn3
      rw [clrB_len HC.out, ← HQ.out] at hln
      have HN3 := Lib.hid hn3
      have HO3 := Lib.hid hO3
      have HLN := Lib.hid hln
      have HQ60 : Hid (q ≤ 60) := Lib.hid (by have := HC.out.1; have := HPB.out; have := HQ.out; omega)
      clear hqc hn3 hst3 hO3 hln HCL
      go_wp2_with fail
      refine (HLN.out).mono ?_
      rintro e w4 ⟨rfl, hw4⟩
      cases hw4
      go_wp2_with fail
      go_loopw [11] (fun jv wr => ∃ j : Nat, j ≤ q ∧ jv = .int .i64 j ∧ Hid (NIn w wr (fun k => (Value.slice la q lc).ownBlock = some k) g (leftM node ps)) ∧ Hid (wr.ownsRow w.heap.size 5 1 (.slice la q lc) q (ys.map byteV))) (fun jv _ => q - (intOf jv).toNat)
      case atStart => exact ⟨0, Nat.zero_le _, rfl, HN3, HO3⟩
      case round =>
        obtain ⟨j, hj, rfl, HR4, HO4⟩ := hrel
        obtain ⟨w5, hw5⟩ : ∃ w5 : World, w5 = wr := ⟨_, rfl⟩
        subst hw5
        by_cases hlt : j < q
        · obtain ⟨y, hy⟩ : ∃ y, ys[j]? = some y := ⟨_, List.getElem?_eq_getElem (by rw [← HQ.out]; exact hlt)⟩
          obtain ⟨p, hp, hpb, hpf, hpt⟩ := clrB_at HC.out hy
          have hpk := nin_peek HR4.out hp
          rw [hpb] at hpk
          obtain ⟨f, t, pb⟩ := p
          dsimp only at hpf hpt hpk
          have HPK := Lib.hid hpk
          have hz := zero_cells Try.infoPkz
          obtain ⟨gl, cl, hsv, _⟩ := own_some HO4.out (by omega)
          injection hsv with q1 q2 q3
          subst q1
          clear q2 q3
          have hcl5 : w5.cell? ⟨gl, j, none⟩ = some (.int .u8 y.toNat) := (World.ownsRow.cellAt HO4.out j (by omega)).trans (by rw [List.getElem?_map, hy]; rfl)
          have HCL5 := Lib.hid hcl5
          have HJ := Lib.hid hlt
          have hyj : (j : Int) < (q : Int) := by omega
          have hj60 : (j : Int) < 60 := by have := HQ60.out; omega
          clear hy hp hpb hpk hcl5 hlt hj HN3 HO3
          go_wp2_with fail
          refine (HPK.out).mono ?_
          rintro e w6 ⟨pa, pc, rfl, ho6, hb6⟩
          obtain ⟨gb, rfl, hc6⟩ := own_byte (own_mono ho6 (Nat.zero_le _))
          obtain ⟨w7, hw7⟩ : ∃ w7, w7 = w6.alloc (.cells #[.int .i64 f, .int .i64 t, .slice (some ⟨gb, 0, none⟩) 1 pc] 71) := ⟨_, rfl⟩
          obtain ⟨gp, hgp⟩ : ∃ gp, gp = w6.heap.size := ⟨_, rfl⟩
          have hr7 : Rw w7 0 gp 71 [.int .i64 f, .int .i64 t, .slice (some ⟨gb, 0, none⟩) 1 pc] := by rw [hw7, hgp]; exact Rw.alloc w6 _ _ (Nat.zero_le _)
          have hb67 : Below w6.heap.size w6 w7 := by rw [hw7]; exact below_more (Below.refl _ _) _
          have hb57 := below_then hb6 hb67
          have e0 : w7.cell? ⟨gp, 0, none⟩ = some (.int .i64 f) := Rw.cell hr7 rfl
          have e1 : w7.cell? ⟨gp, 1, none⟩ = some (.int .i64 t) := Rw.cell hr7 rfl
          have e2 : w7.cell? ⟨gp, 2, none⟩ = some (.slice (some ⟨gb, 0, none⟩) 1 pc) := Rw.cell hr7 rfl
          have e3 : w7.cell? ⟨gb, 0, none⟩ = some (.int .u8 y.toNat) := by rw [hb67.cell (block_of_cell hc6)]; exact hc6
          have e4 : w7.cell? ⟨gl, j, none⟩ = some (.int .u8 y.toNat) := by rw [hb57.cell (block_of_cell HCL5.out)]; exact HCL5.out
          have HN7 := Lib.hid (nin_less (Z' := fun k => (Value.slice (some ⟨gl, 0, none⟩) q lc).ownBlock = some k) (nin_below HR4.out hb57) (fun k hk => .inl hk))
          have HO7 := Lib.hid (own_below HO4.out hb57)
          have HW7 := Lib.hid hw7
          have HGP := Lib.hid hgp
          have hyy : ((y.toNat : Int) != (y.toNat : Int)) = false := by simp
          clear hr7 hb67 hb57 hw7 hgp ho6 hc6 hb6 HPK
          dsimp only [List.length_cons, List.length_nil, Nat.zero_add]
          go_wp2_with (first | (refine wpList_alloc_z rfl 71 rfl #[.int .i64 0, .int .i64 0, .slice none 0 0] hz ?_) | fail)
          rw [← HW7.out]
          simp only [← HGP.out]
          go_quiet (fail)
          go_wp2
          go_roundw
          case rel => have := HJ.out; exact ⟨j + 1, by omega, by go_num, Lib.hid (nin_less (nin_below HN7.out (below_draws (Below.refl _ _) ⟨_, rfl⟩)) (fun k hk => .inl hk)), Lib.hid (own_below HO7.out (below_draws (Below.refl _ _) ⟨_, rfl⟩))⟩
          case measure => have := HJ.out; simp [intOf]; omega
        · have hyj : ¬ (j : Int) < (q : Int) := by omega
          have HB5 := Lib.hid (nin_all HR4.out)
          clear hlt hj
          go_wp2_with fail
          refine (nawake_any w5).mono ?_
          rintro e w8 ⟨rfl, hb8⟩
          have HB8 := Lib.hid (HB5.out.trans (hb8.mono HB5.out.size))
          clear hb8
          go_wp2_with fail
          go_ret
          exact ⟨rfl, HB8.out⟩

theorem netClears_own : ownKnob Try.prog.godebug = none := by kernel_rfl

set_option maxRecDepth 100000 in
theorem netClears_lifted (os : Os) (started : os.Started) (H : Type) (enc : TypeId × Value → H) :
    ReturnsInHanded {} Try.checked os 12 .any (Rows.netClearsSpec.pre6 enc Try.prog Try.f12 Rows.netClearsRow.domain false) (Rows.netClearsSpec.post enc Try.prog Try.f12 false true false false) := by
  refine law_lifted (C := Try.checked) netClears_own started (by kernel_rfl) Try.func12
    (ChangeSpec.witness6 (enc := enc) (C := Try.checked) false ⟨#[], #[.slice none 0 0, .int .i64 0], []⟩ 8 (by kernel_rfl) (by kernel_rfl) (by kernel_rfl) (by kernel_rfl))
    (by kernel_rfl) (of_decide_eq_true (by kernel_rfl)) (tb := 4) (by kernel_rfl) Try.underlying4 rfl (fun ds h => by match ds, h with | [d0, d1], _ => exact ⟨rfl, rfl, rfl⟩) ?_
  intro W base args ds p hval0 hA0 hlt hsz0
  have hval : ∀ (j : Nat) t v, Try.f12.params[j]? = some t → args[j]? = some v → Value.okWide Try.prog W .any base t v := hval0
  have hA : DataW.TrodAll enc Try.prog W 0 (fun _ => true) true Try.f12.params.toList args.toList ds p := hA0
  have hsz : (DataW.weightsEach Try.prog Try.f12.params.toList ds).all (· ≤ reachBytes) = true := hsz0
  rw [Try.params12] at hA hval hsz
  obtain ⟨v0, vs0, d0, ds0, p0, q0, hargs, rfl, rfl, h0, r0⟩ := trodAll_cons hA
  obtain ⟨v1, vs1, d1, ds1, p1, q1, rfl, rfl, rfl, h1, r1⟩ := trodAll_cons r0
  obtain ⟨rfl, rfl, rfl⟩ := trodAll_nil r1
  obtain rfl : args = #[v0, v1] := by cases args; simp_all
  have s0 := sized_at hsz (j := 0) (t := 34) (d := d0) rfl rfl
  obtain ⟨a0, g0, z0⟩ := open_picks Try.underlying34 Try.underlying3 (by kernel_rfl) (by kernel_rfl) (hval 0 34 v0 rfl rfl) h0 s0
  obtain ⟨a1, rfl, rfl, rfl, w1⟩ := open_int Try.underlying3 (hval 1 3 v1 rfl rfl) h1
  exact netClears_any (w := W) v0 a0 g0 z0 a1 (bounds_i64 w1)

theorem netClears_over : Rows.netClearsRow.holds Try.pinned (OpenSpec.ofChange Rows.netClearsSpec) :=
  OpenClaim.holds_of_wide 12 Try.f12 rfl rfl rfl rfl rfl rfl rfl ⟨rfl, rfl, rfl, rfl, rfl⟩ rfl rfl rfl rfl rfl (by kernel_rfl) Try.func12 (by kernel_rfl)
    (of_decide_eq_true (by kernel_rfl)) (by unfold Func.isWrapper; first | (rw [if_pos (by decide +kernel)]; kernel_rfl) | (rw [if_neg (by decide +kernel)]; exact ⟨rfl, rfl⟩))
    (fun os started H enc _ => netClears_lifted os started H enc)

theorem netClears_proved : Rows.NetClearsSaid := netClears_over
#print axioms netClears_proved

end Go.Proofs.Ytmchdfdpajobfaa
