/- Contracts: the code's net: one packet more. -/
import Derived.BigRegion
import Derived.Deep.RegionHeld3
import Derived.Deep.AppendLies
import Derived.Test.YtneomfhlkdpnjaaProg
import Derived.Test.YtneomfhlkdpnjaaKit
import Derived.Test.YtneomfhlkdpnjaaRow
import Derived.Test.YtneomfhlkdpnjaaCod7
import Derived.Test.YtneomfhlkdpnjaaCod9
import Derived.Test.YtneomfhlkdpnjaaFrm12
import Derived.Test.YtneomfhlkdpnjaaFp
import Derived.Test.YtneomfhlkdpnjaaNet0
import Derived.Test.YtneomfhlkdpnjaaNet2
namespace Go.Proofs.Ytneomfhlkdpnjaa
open Go.RowKit Go.Proofs

/-- What stands while a packet is copied: the net, and the packet behind its block gp. -/
def AddS (T : TypeId) (w : World) (g gp : Nat) (v : Value) (rs : List RecP) (f t : Int) (u : Value) (W : World) : Prop :=
  NetAt T W g v rs ∧ Below w.heap.size w W ∧ Rw W 0 gp 52 [.int .i64 f, .int .i64 t, u]

theorem addS_full {T : TypeId} {w : World} {g gp : Nat} {v : Value} {rs : List RecP} {f t : Int} {u : Value} {W : World} (h : AddS T w g gp v rs f t u W) :
    AddS T w g gp v rs f t u W ∧ W.cell? ⟨g, 0, none⟩ = some v ∧ W.cell? ⟨gp, 0, none⟩ = some (.int .i64 f) ∧ W.cell? ⟨gp, 1, none⟩ = some (.int .i64 t) ∧ W.cell? ⟨gp, 2, none⟩ = some u := ⟨h, Rw.cell h.1.1 rfl, Rw.cell h.2.2 rfl, Rw.cell h.2.2 rfl, Rw.cell h.2.2 rfl⟩

theorem addS_below {T : TypeId} {w : World} {g gp : Nat} {v : Value} {rs : List RecP} {f t : Int} {u : Value} {W W' : World} (h : AddS T w g gp v rs f t u W) (hb : Below W.heap.size W W') : AddS T w g gp v rs f t u W' :=
  ⟨netAt_below h.1 hb, h.2.1.trans (hb.mono h.2.1.size), Rw.below h.2.2 hb⟩

theorem addS_clone {T : TypeId} {w : World} {g gp : Nat} {v : Value} {rs : List RecP} {f t : Int} {u : Value} {b : List UInt8} (H : Hid (ByteSl w w.heap.size u b)) (hl : b.length ≤ 140737488351232) {W : World} (h : AddS T w g gp v rs f t u W) :
    Calls Try.prog 79 #[.agg #[.int .i64 f, .int .i64 t, u]] W fun e w' => ∃ ua uc, e = .returned (.agg #[.int .i64 f, .int .i64 t, .slice ua b.length uc]) ∧
      Hid (w'.ownsRow w.heap.size 5 1 (.slice ua b.length uc) b.length (b.map byteV)) ∧ Hid (AddS T w g gp v rs f t u w') := by
  refine (pclone_any f t b u W (ByteSl.more3 (ByteSl.keep H.out h.2.1 (Nat.le_refl _)) h.2.1.size) (by omega)).mono ?_
  rintro e w' ⟨u', rfl, ho, hb⟩
  obtain ⟨ua, uc, rfl⟩ := own_len ho
  exact ⟨ua, uc, rfl, Lib.hid (own_mono ho h.2.1.size), Lib.hid (addS_below h hb)⟩

/-- The end: the row has been appended to, and stored. -/
theorem add_end {T : TypeId} {w w2 w3 : World} {g gp : Nat} {v : Value} {rs : List RecP} {p : PkM} {u v' u' : Value} (hT : T ≠ 52) (hT2 : T ≠ 5) (h2 : AddS T w g gp v rs p.f p.t u w2) (hw : NetAt T w g v rs) (ho : w2.ownsRow w.heap.size 5 1 u' p.b.length (p.b.map byteV)) (hl : p.b.length ≤ 140737488351232)
    (h3 : w3.ownsRow 0 52 3 v' (rs.length + 1) (rowsP rs ++ [.int .i64 p.f, .int .i64 p.t, u'])) {o : Obj} (hg : (w2.alloc o).grownBy w3 v.ownBlock) (hat : ∀ k, v'.ownBlock = some k → v.ownBlock = some k ∨ k = w2.heap.size + 1) :
    NetV T w (w3.setCell ⟨g, 0, none⟩ v') g v (rs ++ [⟨p, u'⟩]) := by
  have hgw : g < w.heap.size := Rw.size hw.1
  have hgv : v.ownBlock ≠ some g := own_rw hw.2.1 hw.1 (fun e => hT e.symm)
  have h2s := h2.2.1.size
  have hbA : Below w.heap.size w (w2.alloc o) := h2.2.1.alloc h2s o
  have hblk : ∀ k, k < w2.heap.size → v.ownBlock ≠ some k → w3.heap[k]? = w2.heap[k]? := fun k hk hv => by
    rw [hg.block k (by simp; omega) (fun e => hv e.symm)]
    exact (below_more (Below.refl _ _) o).block k hk
  have hr3 : Rw w3 0 g T [v] := ⟨Nat.zero_le _, (hblk g (by omega) hgv).trans h2.1.1.2⟩
  have hg' : v'.ownBlock ≠ some g := own_rw h3 hr3 (fun e => hT e.symm)
  have hset : ∀ k, k ≠ g → (w3.setCell ⟨g, 0, none⟩ v').heap[k]? = w3.heap[k]? := fun k hk => by
    simp only [World.setCell, Array.getElem?_modify]
    rw [if_neg (fun e => hk e.symm)]
  have hbyte : ∀ {base n : Nat} {x : Value} {xs : List Value}, w2.ownsRow base 5 1 x n xs → (w3.setCell ⟨g, 0, none⟩ v').ownsRow base 5 1 x n xs := fun {base n x xs} hx => by
    refine own_same hx (fun k hk => ?_)
    have hkg : k ≠ g := by
      rintro rfl
      exact own_rw hx h2.1.1 (fun e => hT2 e.symm) hk
    exact (hset k hkg).trans (hblk k (own_lt hx hk) (fun hv => own_unlike h2.1.2.1 hx (by decide) hv hk))
  refine ⟨v', ⟨Rw.stored hr3 0 v', ?_, fun r hr => ?_⟩, fun k hk => ?_, ?_⟩
  · have h4 : w3.ownsRow 0 52 3 v' (rs ++ [(⟨p, u'⟩ : RecP)]).length (rowsP (rs ++ [⟨p, u'⟩])) := by
      rw [List.length_append, rowsP_app, rowsP_one]
      exact h3
    exact own_same h4 (fun k hk => hset k (by rintro rfl; exact hg' hk))
  · rcases List.mem_append.1 hr with hr | hr
    · exact ⟨hbyte (h2.1.2.2 r hr).1, (h2.1.2.2 r hr).2⟩
    · simp only [List.mem_cons, List.not_mem_nil, or_false] at hr
      subst hr
      exact ⟨hbyte (own_mono ho (Nat.zero_le _)), hl⟩
  · rcases hat k hk with h | h
    · exact .inl h
    · exact .inr (by omega)
  · refine kept_put ?_ (.inl (.inl rfl)) 0 v'
    exact kept_grown (kept_below hbA) hg (fun k hk => .inl (.inr hk))

end Go.Proofs.Ytneomfhlkdpnjaa
