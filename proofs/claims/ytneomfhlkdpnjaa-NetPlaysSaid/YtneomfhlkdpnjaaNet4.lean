/- Contracts: the code's net: add. -/
import Derived.BigRegion
import Derived.Deep.RegionLaw
import Derived.Deep.AppendLies
import Derived.Test.YtneomfhlkdpnjaaProg
import Derived.Test.YtneomfhlkdpnjaaKit
import Derived.Test.YtneomfhlkdpnjaaRow
import Derived.Test.YtneomfhlkdpnjaaCod7
import Derived.Test.YtneomfhlkdpnjaaCod9
import Derived.Test.YtneomfhlkdpnjaaNet0
import Derived.Test.YtneomfhlkdpnjaaNet3
import Derived.Test.YtneomfhlkdpnjaaStp
namespace Go.Proofs.Ytneomfhlkdpnjaa
open Go.RowKit Go.Proofs

theorem addS_own {T : TypeId} {w : World} {g gp : Nat} {v : Value} {rs : List RecP} {f t : Int} {u : Value} {W : World} (h : AddS T w g gp v rs f t u W) : W.ownsRow 0 52 3 v rs.length (rowsP rs) := h.1.2.1

theorem cell_more {w : World} {b j : Nat} {x : Value} (h : w.cell? ⟨b, j, none⟩ = some x) (o : Obj) : (w.alloc o).cell? ⟨b, j, none⟩ = some x := by rw [World.cell?_alloc_some w _ o (by rw [h]; rfl)]; exact h

theorem pk_cells_one (f t : Int) (a : Option Addr) (n c : Nat) : ∀ x ∈ [Value.int .i64 f, .int .i64 t, .slice a n c], x.oneCell' = true := fun x hx => by
  simp only [List.mem_cons, List.not_mem_nil, or_false] at hx
  rcases hx with rfl | rfl | rfl <;> rfl

theorem addS_cells {T : TypeId} {w w2 w3 : World} {g gp : Nat} {v : Value} {rs : List RecP} {f t : Int} {u : Value} {o : Obj} (hT : T ≠ 52) (h : AddS T w g gp v rs f t u w2) (hg : (w2.alloc o).grownBy w3 v.ownBlock) : w3.cell? ⟨g, 0, none⟩ = some v ∧ w3.frozen? ⟨g, 0, none⟩ = false := by
  have hlt := Rw.size h.1.1
  have hgv : v.ownBlock ≠ some g := own_rw h.1.2.1 h.1.1 (fun e => hT e.symm)
  have hr3 : Rw w3 0 g T [v] := ⟨Nat.zero_le _, by
    rw [hg.block g (by simp; omega) (fun e => hgv e.symm), (below_more (Below.refl _ _) o).block g hlt]
    exact h.1.1.2⟩
  exact ⟨Rw.cell hr3 rfl, Rw.free hr3 0⟩

set_option maxRecDepth 100000 in
set_option maxHeartbeats 2000000 in
theorem add_any {w : World} {g : Nat} {v : Value} {rs : List RecP} (h : NetAt 93 w g v rs) (p : PkM) (u : Value) (hu : ByteSl w w.heap.size u p.b) (hl : p.b.length ≤ 140737488351232) (hn : rs.length < 1000000) :
    Calls Try.prog 52 #[.pointer (some ⟨g, 0, none⟩), .agg #[.int .i64 p.f, .int .i64 p.t, u]] w fun e w' => e = .returned (.tuple #[]) ∧ ∃ u', (∀ k, u'.ownBlock = some k → w.heap.size ≤ k) ∧ NetV 93 w w' g v (rs ++ [⟨p, u'⟩]) := by
  obtain ⟨f, t, b⟩ := p
  dsimp only at hu hl ⊢
  have H := Lib.hid h
  have HU := Lib.hid hu
  have hs0 : AddS 93 w g w.heap.size v rs f t u (w.alloc (.cells #[.int .i64 f, .int .i64 t, u] 52)) :=
    ⟨netAt_below h (below_more (Below.refl _ _) _), below_more (Below.refl _ _) _, Rw.alloc w _ _ (Nat.zero_le _)⟩
  have hs1 : AddS 93 w g w.heap.size v rs f t u (w.alloc (.cells #[.int .i64 f, .int .i64 t, u] 52)).drew := addS_below hs0 (below_draws (Below.refl _ _) ⟨1, rfl⟩)
  obtain ⟨va, vc, rfl⟩ := own_len h.2.1
  obtain ⟨i0, hi, hz0, hz1, hz2⟩ := info_parts Try.infoPacket
  obtain ⟨n, hnn⟩ : ∃ n, n = rs.length := ⟨_, rfl⟩
  have HNN := Lib.hid hnn
  have HMX : Hid (rs.length + 1 ≤ maxLen) := Lib.hid (by unfold maxLen; omega)
  have HBT : Hid ((rs.length + 1) * 40 ≤ 140737488355328) := Lib.hid (by omega)
  have HL := Lib.hid hl
  obtain ⟨_, hcg, hc0, hc1, hc2⟩ := addS_full hs1
  have HS1 := Lib.hid hs1
  have henter : Enters Try.prog 79 := enters_of Try.func79 (by kernel_rfl) rfl
  clear h hu hs0 hn hl hnn hs1
  go_enter Try.func52, Try.ntmps52
  go_wp2_with fail
  go_region_law
    (first
      | (refine step_call rfl 79 _ _ rfl #[.agg #[.int .i64 f, .int .i64 t, u]] (by simp [go_sem]) henter (addS_clone HU HL.out HS1.out) ?_; rintro e w2 ⟨ua, uc, rfl, ho2, hs2⟩; refine ⟨_, rfl, ?_⟩; have hcg2 := (addS_full hs2.out).2.1; have hcg3 := cell_more hcg2)
      | (refine step_append_lies _ rfl _ _ 43 rfl 0 52 i0 _ 3 40 Try.underlying43 hi hz0 hz1 hz2 rfl (by decide) (.slice va rs.length vc) rs.length (rowsP rs) rfl ((addS_own hs2.out).alloc _) ⟨w2.heap.size, 0, none⟩ 1 1 [.int .i64 f, .int .i64 t, .slice ua b.length uc] rfl rfl (World.news_of_block (heap_alloc_new w2 _)) (pk_cells_one _ _ _ _ _) (by decide) HMX.out HBT.out (Nat.zero_le _) (w2.heap.size + 1) (by simp) ?_; intro gg cap w3 hown3 hgrow hat hlt; have hcc := addS_cells (by decide) hs2.out hgrow; have hc3 := hcc.1; have hf3 := hcc.2))
  all_goals
    go_end0
    refine ⟨rfl, .slice ua b.length uc, fun k hk => (World.ownsRow.lt ho2.out k hk).1, ?_⟩
    exact add_end (p := ⟨f, t, b⟩) (by decide) (by decide) hs2.out H.out ho2.out HL.out hown3 hgrow (fun k hk => by
      simp only [Value.ownBlock, Option.some.injEq] at hk
      subst hk
      exact hat)

end Go.Proofs.Ytneomfhlkdpnjaa
