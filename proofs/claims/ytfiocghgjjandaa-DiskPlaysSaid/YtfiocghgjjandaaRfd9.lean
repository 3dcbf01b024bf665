/- Contracts: the reference disk's Crash, Copy. -/
import Derived.BigRegion
import Derived.BigQuiet
import Derived.Deep.RegionHeld3
import Derived.Deep.RegionLaw
import Derived.Maps.AppendAt
import Derived.Test.YtfiocghgjjandaaProg
import Derived.Test.YtfiocghgjjandaaKit
import Derived.Test.YtfiocghgjjandaaRow
import Derived.Test.YtfiocghgjjandaaRow2
import Derived.Test.YtfiocghgjjandaaCod7
import Derived.Test.YtfiocghgjjandaaJoin
import Derived.Test.YtfiocghgjjandaaRdk0
import Derived.Test.YtfiocghgjjandaaDsk6
import Derived.Test.YtfiocghgjjandaaDsk17
import Derived.Test.YtfiocghgjjandaaNet0
import Derived.Test.YtfiocghgjjandaaRfd0
import Derived.Test.YtfiocghgjjandaaRfd3
import Derived.Test.YtfiocghgjjandaaRfd4
namespace Go.Proofs.Ytfiocghgjjandaa
open Go.RowKit Go.Proofs

/-- An append of nothing, as one step of a region that draws. -/
theorem step_append_nil {P : Program} {ops : Array Oper} {o : Oper} {a : Act} {w : World} {K : Act → World → Prop} {Q : Exit → Act → World → Prop} {E : Prop} (hgd : o.guard = none) (s x : Operand) (t : TypeId)
    (ho : o.op = .call { callee := .builtin .append, args := #[s, x], argTypes := #[t, t] })
    (base : Nat) (e : TypeId) (i : TypeInfo) (size : Nat) (ht : P.underlying t = some (.slice e)) (hi : P.info? e = some i)
    (v : Value) (n : Nat) (xs : List Value) (hs : a.eval s = v) (hown : w.ownsRow base e size v n xs) (hx : a.eval x = .slice none 0 0)
    (h : K (a.put o.dst v) w) : if Region.wanted o (yielded ops a.tmps) = true then Oper.wp P o a w K Q else E := by
  have hw : Region.wanted o (yielded ops a.tmps) = true := by simp [Region.wanted, hgd]
  rw [if_pos hw]
  have hrun := run_append_owned_none (P := P) (w := w) base t o.type e i size ht hi v n xs hown
  unfold Oper.wp
  simp [execOp, ho, resolve, invoke, builtin, hs, hx, hrun, Result.andThen]
  exact h

/-- The copy's row. -/
theorem copy_end {w w2 : World} {Y : Nat → Prop} {h : Nat} {D : DiskM} {L L' : Value} {rs : List RecF} {X : Nat → Prop} {q0 q2 q3 : Int} (H : RefR w Y h D L rs X) (hb : Below w.heap.size w w2) (ho : w2.ownsRow w.heap.size 84 3 L' rs.length (rowsF rs)) (hq : q0 = D.room ∧ q2 = D.n ∧ q3 = D.last) :
    RefR (w2.alloc (.cells #[.int .i64 q0, L', .int .i64 q2, .int .i64 q3] 50)) (fun k => Y k ∨ (w.heap.size ≤ k ∧ k < (w2.alloc (.cells #[.int .i64 q0, L', .int .i64 q2, .int .i64 q3] 50)).heap.size)) w2.heap.size D L' rs X ∧ Below w.heap.size w (w2.alloc (.cells #[.int .i64 q0, L', .int .i64 q2, .int .i64 q3] 50)) := by
  obtain ⟨rfl, rfl, rfl⟩ := hq
  have hb3 : Below w2.heap.size w2 (w2.alloc (.cells #[.int .i64 D.room, L', .int .i64 D.n, .int .i64 D.last] 50)) := below_more (Below.refl _ _) _
  have hb4 := hb.trans (hb3.mono hb.size)
  have hR : Rw (w2.alloc (.cells #[.int .i64 D.room, L', .int .i64 D.n, .int .i64 D.last] 50)) 0 w2.heap.size 50 [.int .i64 D.room, L', .int .i64 D.n, .int .i64 D.last] := Rw.alloc w2 _ _ (Nat.zero_le _)
  have hsz := Rw.size hR
  have hs2 := hb.size
  refine ⟨⟨H.fs, .inr ⟨hs2, hsz⟩, hR, own_mono (own_below ho hb3) (Nat.zero_le _), fun k hk => ?_, fun k hk => ?_, fun r hr => byteZ_keep (H.bys r hr) (fun k hlt _ => hb4.block k hlt) (fun _ h => h)⟩, hb4⟩
  · have := World.ownsRow.lt ho k hk
    exact .inr ⟨this.1, by omega⟩
  · obtain ⟨x1, x2, x3, x4⟩ := H.xy k hk
    exact ⟨.inl x1, by omega, fun e => by have := World.ownsRow.lt ho k e; omega, by omega⟩

set_option maxRecDepth 100000 in
set_option maxHeartbeats 8000000 in
/-- Copy. -/
theorem rcopy_any {w : World} {Y : Nat → Prop} {h : Nat} {C : CodM} (H : RTw w Y h C) (hok : COk C) :
    Calls Try.prog 27 #[.pointer (some ⟨h, 0, none⟩)] w fun e w' => ∃ h', e = .returned (.pointer (some ⟨h', 0, none⟩)) ∧ RTw w' (fun k => Y k ∨ (w.heap.size ≤ k ∧ k < w'.heap.size)) h' C ∧ Below w.heap.size w w' := by
  obtain ⟨D, T, L, rs, X, R0⟩ := H
  have hfs : rs.map (·.f) = C.fs := R0.fs.trans T.fs
  have hrl : rs.length ≤ 64 := by have := hok.len; rw [← hfs, List.length_map] at this; exact this
  obtain ⟨i0, hi, hz0, hz1, hz2⟩ := info_parts Try.infoRFile
  have HH := Lib.hid R0
  have HT := Lib.hid T
  have HO := Lib.hid R0.own
  obtain ⟨n, hn⟩ : ∃ n, n = rs.length := ⟨_, rfl⟩
  have hla : (L = .slice none 0 0 ∧ n = 0) ∨ ∃ gl lc, L = .slice (some ⟨gl, 0, none⟩) n lc := by
    rw [hn]
    rcases R0.own.2 with ⟨e, e2⟩ | ⟨g, cap, cur, e, _⟩
    · exact .inl ⟨e, e2⟩
    · exact .inr ⟨g, cap, e⟩
  have c0 : w.cell? ⟨h, 0, none⟩ = some (.int .i64 D.room) := Rw.cell R0.rwd rfl
  have c1 : w.cell? ⟨h, 1, none⟩ = some L := Rw.cell R0.rwd rfl
  have c2 : w.cell? ⟨h, 2, none⟩ = some (.int .i64 D.n) := Rw.cell R0.rwd rfl
  have c3 : w.cell? ⟨h, 3, none⟩ = some (.int .i64 D.last) := Rw.cell R0.rwd rfl
  obtain ⟨q0, hq0⟩ : ∃ q, q = D.room := ⟨_, rfl⟩
  obtain ⟨q2, hq2⟩ : ∃ q : Int, q = D.n := ⟨_, rfl⟩
  obtain ⟨q3, hq3⟩ : ∃ q, q = D.last := ⟨_, rfl⟩
  rw [← hq0] at c0
  rw [← hq2] at c2
  rw [← hq3] at c3
  have HQ : Hid (q0 = D.room ∧ q2 = D.n ∧ q3 = D.last) := Lib.hid ⟨hq0, hq2, hq3⟩
  rw [← hn] at hrl
  have HN := Lib.hid hn
  have hlt := refR_lt R0
  have hb1 : Below w.heap.size w (w.alloc (.cells #[] 84)) := below_more (Below.refl _ _) _
  have hb1d : Below w.heap.size w (w.alloc (.cells #[] 84)).drew := below_draws hb1 ⟨1, rfl⟩
  have d0 := kcell_moreR c0 (.cells #[] 84)
  have d1 := kcell_moreR c1 (.cells #[] 84)
  have d2 := kcell_moreR c2 (.cells #[] 84)
  have d3 := kcell_moreR c3 (.cells #[] 84)
  have how : (w.alloc (.cells #[] 84)).ownsRow w.heap.size 84 3 (.slice (some ⟨w.heap.size, 0, none⟩) 0 0) 0 [] := World.ownsRow_made w #[] 0 (Nat.le_refl _) (by decide) rfl
  have HOW : Hid ((w.alloc (.cells #[] 84)).drew.ownsRow w.heap.size 84 3 (.slice (some ⟨w.heap.size, 0, none⟩) 0 0) 0 []) := Lib.hid (own_mono (own_below how (below_draws (Below.refl _ _) ⟨1, rfl⟩)) (Nat.le_refl _))
  have HONE : Hid (∀ u ∈ rowsF rs, u.oneCell' = true) := Lib.hid (rowsF_ones R0.bys)
  have HB1 := Lib.hid hb1d
  have HB0 := Lib.hid hb1
  have HOW0 := Lib.hid how
  have HC := Lib.hid c0
  have HC1 := Lib.hid c1
  have HC2 := Lib.hid c2
  have HC3 := Lib.hid c3
  clear hq0 hq2 hq3 R0 T hok hfs how hb1 hb1d hn hlt
  rcases hla with ⟨rfl, hn0⟩ | ⟨gl, lc, rfl⟩
  · have HNZ := Lib.hid hn0
    subst hn0
    go_enter Try.func27, Try.ntmps27
    go_wp2_with fail
    have S0 : w.drew.cell? ⟨h, 0, none⟩ = some (.int .i64 q0) ∧ w.drew.cell? ⟨h, 1, none⟩ = some (.slice none 0 0) ∧ w.drew.cell? ⟨h, 2, none⟩ = some (.int .i64 q2) ∧ w.drew.cell? ⟨h, 3, none⟩ = some (.int .i64 q3) := ⟨c0, c1, c2, c3⟩
    have S1 : (w.alloc (.cells #[] 84)).drew.cell? ⟨h, 0, none⟩ = some (.int .i64 q0) ∧ (w.alloc (.cells #[] 84)).drew.cell? ⟨h, 1, none⟩ = some (.slice none 0 0) ∧ (w.alloc (.cells #[] 84)).drew.cell? ⟨h, 2, none⟩ = some (.int .i64 q2) ∧ (w.alloc (.cells #[] 84)).drew.cell? ⟨h, 3, none⟩ = some (.int .i64 q3) := ⟨d0, d1, d2, d3⟩
    have S3 : ((w.alloc (.cells #[] 84)).drew.alloc (.cells #[.int .i64 q0, .slice (some ⟨w.heap.size, 0, none⟩) 0 0, .int .i64 q2, .int .i64 q3] 50)).cell? ⟨h, 0, none⟩ = some (.int .i64 q0) ∧ ((w.alloc (.cells #[] 84)).drew.alloc (.cells #[.int .i64 q0, .slice (some ⟨w.heap.size, 0, none⟩) 0 0, .int .i64 q2, .int .i64 q3] 50)).cell? ⟨h, 1, none⟩ = some (.slice none 0 0) ∧ ((w.alloc (.cells #[] 84)).drew.alloc (.cells #[.int .i64 q0, .slice (some ⟨w.heap.size, 0, none⟩) 0 0, .int .i64 q2, .int .i64 q3] 50)).cell? ⟨h, 2, none⟩ = some (.int .i64 q2) ∧ ((w.alloc (.cells #[] 84)).drew.alloc (.cells #[.int .i64 q0, .slice (some ⟨w.heap.size, 0, none⟩) 0 0, .int .i64 q2, .int .i64 q3] 50)).cell? ⟨h, 3, none⟩ = some (.int .i64 q3) := ⟨kcell_moreR S1.1 _, kcell_moreR S1.2.1 _, kcell_moreR S1.2.2.1 _, kcell_moreR S1.2.2.2 _⟩
    clear c0 c1 c2 c3 d0 d1 d2 d3
    go_region_held3 (fun W => W.cell? ⟨h, 0, none⟩ = some (.int .i64 q0) ∧ W.cell? ⟨h, 1, none⟩ = some (.slice none 0 0) ∧ W.cell? ⟨h, 2, none⟩ = some (.int .i64 q2) ∧ W.cell? ⟨h, 3, none⟩ = some (.int .i64 q3))
      (first | exact S0 | exact S1 | exact S3)
      (first | (refine step_append_nil rfl (.tmp 7) (.tmp 11) 48 rfl w.heap.size 84 i0 3 Try.underlying48 hi (.slice (some ⟨w.heap.size, 0, none⟩) 0 0) 0 [] (by simp [Act.eval]) HOW.out (by simp [Act.eval]) ?_))
    all_goals
      have HE := Lib.hid (copy_end (L' := .slice (some ⟨w.heap.size, 0, none⟩) 0 0) HH.out HB0.out (by rw [← HN.out]; have h0 : rs = [] := List.eq_nil_of_length_eq_zero HN.out.symm; rw [h0]; exact HOW0.out) HQ.out)
      clear S0 S1 S3
      go_wp2_with fail
      go_ret
      have h9 := HE.out.1
      rw [show (w.alloc (.cells #[] 84)).heap.size = w.heap.size + 1 by simp] at h9
      exact ⟨_, rfl, ⟨D, HT.out, _, _, _, refR_below h9 (below_draws (Below.refl _ _) ⟨1, rfl⟩)⟩, below_draws HE.out.2 ⟨1, rfl⟩⟩
  · have HCE : Hid (∀ j u, (rowsF rs)[j]? = some u → (w.alloc (.cells #[] 84)).drew.cell? ((⟨gl, 0, none⟩ : Addr).add j) = some u) := Lib.hid (fun j u hj => by
      rw [Addr.add_mid, Nat.zero_add]
      have hjl := (List.getElem?_eq_some_iff.1 hj).1
      have h1 : w.cell? ⟨gl, j, none⟩ = some u := by
        have ho := HO.out
        rw [← HN.out] at ho
        rw [World.ownsRow.cellAt ho j (by rw [HN.out, ← rowsF_len3]; exact hjl)]
        exact hj
      exact cell_same h1 (HB1.out.block gl (own_lt HO.out rfl)))
    have hn64 : n ≤ 64 := hrl
    go_enter Try.func27, Try.ntmps27
    go_wp2_with fail
    have S0 : w.drew.cell? ⟨h, 0, none⟩ = some (.int .i64 q0) ∧ w.drew.cell? ⟨h, 1, none⟩ = some (.slice (some ⟨gl, 0, none⟩) n lc) ∧ w.drew.cell? ⟨h, 2, none⟩ = some (.int .i64 q2) ∧ w.drew.cell? ⟨h, 3, none⟩ = some (.int .i64 q3) := ⟨c0, c1, c2, c3⟩
    have S1 : (w.alloc (.cells #[] 84)).drew.cell? ⟨h, 0, none⟩ = some (.int .i64 q0) ∧ (w.alloc (.cells #[] 84)).drew.cell? ⟨h, 1, none⟩ = some (.slice (some ⟨gl, 0, none⟩) n lc) ∧ (w.alloc (.cells #[] 84)).drew.cell? ⟨h, 2, none⟩ = some (.int .i64 q2) ∧ (w.alloc (.cells #[] 84)).drew.cell? ⟨h, 3, none⟩ = some (.int .i64 q3) := ⟨d0, d1, d2, d3⟩
    have hn64' : (n : Int) ≤ 64 := by omega
    clear c0 c1 c2 c3 d0 d1 d2 d3
    go_region_held3 (fun W => W.cell? ⟨h, 0, none⟩ = some (.int .i64 q0) ∧ W.cell? ⟨h, 1, none⟩ = some (.slice (some ⟨gl, 0, none⟩) n lc) ∧ W.cell? ⟨h, 2, none⟩ = some (.int .i64 q2) ∧ W.cell? ⟨h, 3, none⟩ = some (.int .i64 q3))
      (first | exact S0 | exact S1 | exact S2 | exact S3)
      (first | (refine step_append_at rfl (.tmp 7) (.tmp 11) 48 rfl w.heap.size 84 i0 _ 3 48 Try.underlying48 hi hz0 hz1 hz2 rfl (by decide) (.slice (some ⟨w.heap.size, 0, none⟩) 0 0) 0 [] (by simp [Act.eval]) HOW.out ⟨gl, 0, none⟩ n lc (rowsF rs) (by simp [Act.eval]) (by rw [rowsF_len3, HN.out]) HCE.out HONE.out (by unfold maxLen; omega) (by omega) HB1.out.size ?_; intro v2 w2 ho2 hg2 hl2; have HO2 : Hid (w2.ownsRow w.heap.size 84 3 v2 n (rowsF rs)) := Lib.hid (by have := ho2.out; rw [Nat.zero_add, List.nil_append] at this; exact this); have hb2 : Below w.heap.size w w2 := HB1.out.grown hg2.out HB1.out.size (fun k hk => by simp [Value.ownBlock] at hk; omega); obtain ⟨a2, p2, rfl⟩ := own_len HO2.out; have S2 : w2.cell? ⟨h, 0, none⟩ = some (.int .i64 q0) ∧ w2.cell? ⟨h, 1, none⟩ = some (.slice (some ⟨gl, 0, none⟩) n lc) ∧ w2.cell? ⟨h, 2, none⟩ = some (.int .i64 q2) ∧ w2.cell? ⟨h, 3, none⟩ = some (.int .i64 q3) := ⟨cell_same HC.out (hb2.block h (block_of_cell HC.out)), cell_same HC1.out (hb2.block h (block_of_cell HC.out)), cell_same HC2.out (hb2.block h (block_of_cell HC.out)), cell_same HC3.out (hb2.block h (block_of_cell HC.out))⟩; have S3 : (w2.alloc (.cells #[.int .i64 q0, .slice a2 n p2, .int .i64 q2, .int .i64 q3] 50)).cell? ⟨h, 0, none⟩ = some (.int .i64 q0) ∧ (w2.alloc (.cells #[.int .i64 q0, .slice a2 n p2, .int .i64 q2, .int .i64 q3] 50)).cell? ⟨h, 1, none⟩ = some (.slice (some ⟨gl, 0, none⟩) n lc) ∧ (w2.alloc (.cells #[.int .i64 q0, .slice a2 n p2, .int .i64 q2, .int .i64 q3] 50)).cell? ⟨h, 2, none⟩ = some (.int .i64 q2) ∧ (w2.alloc (.cells #[.int .i64 q0, .slice a2 n p2, .int .i64 q2, .int .i64 q3] 50)).cell? ⟨h, 3, none⟩ = some (.int .i64 q3) := ⟨kcell_moreR S2.1 _, kcell_moreR S2.2.1 _, kcell_moreR S2.2.2.1 _, kcell_moreR S2.2.2.2 _⟩; have HB2 := Lib.hid hb2; clear ho2 hg2 hl2 hb2))
    all_goals
      have HE := Lib.hid (copy_end HH.out HB2.out (by rw [← HN.out]; exact HO2.out) HQ.out)
      clear S0 S1 S2 S3
      go_wp2_with fail
      go_ret
      exact ⟨w2.heap.size, rfl, ⟨D, HT.out, _, _, _, HE.out.1⟩, HE.out.2⟩

end Go.Proofs.Ytfiocghgjjandaa
