/- Contracts: msg: the reader: stop, take. -/
import Derived.BigRegion
import Derived.Deep.RegionHeld3
import Derived.Test.YtiblaengkkpbiaaProg
import Derived.Test.YtiblaengkkpbiaaKit
import Derived.Test.YtiblaengkkpbiaaRow
import Derived.Test.YtiblaengkkpbiaaCod5
import Derived.Test.YtiblaengkkpbiaaCod7
import Derived.Test.YtiblaengkkpbiaaCod9
import Derived.Test.YtiblaengkkpbiaaFp
import Derived.Test.YtiblaengkkpbiaaKp0
import Derived.Test.YtiblaengkkpbiaaMg0
namespace Go.Proofs.Ytiblaengkkpbiaa
open Go.RowKit Go.Proofs

/-- Bytes that lie below B. -/
def BySl (w : World) (B : Nat) (v : Value) (l : List UInt8) : Prop := ∃ a c, v = .slice a l.length c ∧ l.length ≤ c ∧ Lies w B a l

theorem bySl_of {w : World} {B : Nat} {v : Value} {l : List UInt8} (h : ByteSl w B v l) : BySl w B v l := by
  rcases h with ⟨rfl, rfl⟩ | ⟨ad, c, rfl, hc, hl⟩
  · exact ⟨none, 0, rfl, Nat.le_refl _, .inl rfl⟩
  · exact ⟨some ad, c, rfl, hc, hl⟩

theorem lies_keep {w w' : World} {B : Nat} {a : Option Addr} {l : List UInt8} (h : Lies w B a l) (hk : ∀ k, k < B → k < w.heap.size → w'.heap[k]? = w.heap[k]?) : Lies w' B a l := by
  rcases h with h | ⟨b, o, ha, hb, h⟩
  · exact .inl h
  · exact .inr ⟨b, o, ha, hb, fun j x hj => cell_kept (h j x hj) (hk b hb (block_of_cell (h j x hj)))⟩

theorem bySl_kept {w w' : World} {B g : Nat} {v : Value} {l : List UInt8} (h : BySl w B v l) (hg : B ≤ g) (hk : Kept (fun k => k = g) w w') : BySl w' B v l := by
  obtain ⟨a, c, hv, hc, hl⟩ := h
  exact ⟨a, c, hv, hc, lies_keep hl (fun k hkB hks => hk.blk k hks (by omega))⟩

theorem bySl_below {w w' : World} {B : Nat} {v : Value} {l : List UInt8} (h : BySl w B v l) (hb : Below w.heap.size w w') : BySl w' B v l := by
  obtain ⟨a, c, hv, hc, hl⟩ := h
  exact ⟨a, c, hv, hc, lies_keep hl (fun k _ hks => hb.block k hks)⟩

def RdAt (w : World) (B g : Nat) (s : List UInt8 × Bool) : Prop := B ≤ g ∧ ∃ v, Rw w 0 g 59 [v, .bool s.2] ∧ BySl w B v s.1

def RdV (w w' : World) (B g : Nat) (s : List UInt8 × Bool) : Prop := RdAt w' B g s ∧ Kept (fun k => k = g) w w'

theorem rdAt_below {w w' : World} {B g : Nat} {s : List UInt8 × Bool} (h : RdAt w B g s) (hb : Below w.heap.size w w') : RdAt w' B g s := by
  obtain ⟨h1, v, h2, h3⟩ := h
  exact ⟨h1, v, Rw.below h2 hb, bySl_below h3 hb⟩

theorem rdV_then {w w1 w2 : World} {B g : Nat} {s s2 : List UInt8 × Bool} (h : RdV w w1 B g s) (h2 : RdV w1 w2 B g s2) : RdV w w2 B g s2 := ⟨h2.1, kept_trans h.2 h2.2⟩

theorem rdV_refl {w : World} {B g : Nat} {s : List UInt8 × Bool} (h : RdAt w B g s) : RdV w w B g s := ⟨h, kept_refl _ _⟩

theorem rdV_below {w w1 w2 : World} {B g : Nat} {s : List UInt8 × Bool} (h : RdV w w1 B g s) (hb : Below w1.heap.size w1 w2) : RdV w w2 B g s := ⟨rdAt_below h.1 hb, kept_then (G := fun _ => False) h.2 (kept_below hb) (fun _ h => h.elim)⟩

/-- Stores into block g. -/
theorem rd_store {w : World} {B g : Nat} {v v2 : Value} {b b2 : Bool} {l2 : List UInt8} (hg : B ≤ g) (hr : Rw w 0 g 59 [v, .bool b]) (hl : BySl w B v2 l2) : RdV w ((w.setCell ⟨g, 0, none⟩ v2).setCell ⟨g, 1, none⟩ (.bool b2)) B g (l2, b2) := by
  have hk : Kept (fun k => k = g) w ((w.setCell ⟨g, 0, none⟩ v2).setCell ⟨g, 1, none⟩ (.bool b2)) := kept_put (F := fun k => k = g) (kept_put (F := fun k => k = g) (kept_refl _ _) (.inl rfl) 0 v2) (.inl rfl) 1 (.bool b2)
  exact ⟨⟨hg, v2, Rw.stored (Rw.stored hr 0 v2) 1 (.bool b2), bySl_kept hl hg hk⟩, hk⟩

theorem rd_store1 {w : World} {B g : Nat} {v v2 : Value} {b : Bool} {l2 : List UInt8} (hg : B ≤ g) (hr : Rw w 0 g 59 [v, .bool b]) (hl : BySl w B v2 l2) : RdV w (w.setCell ⟨g, 0, none⟩ v2) B g (l2, b) := by
  have hk : Kept (fun k => k = g) w (w.setCell ⟨g, 0, none⟩ v2) := kept_put (F := fun k => k = g) (kept_refl _ _) (.inl rfl) 0 v2
  exact ⟨⟨hg, v2, Rw.stored hr 0 v2, bySl_kept hl hg hk⟩, hk⟩

theorem bySl_nil (w : World) (B : Nat) : BySl w B (.slice none 0 0) [] := ⟨none, 0, rfl, Nat.le_refl _, .inl rfl⟩

theorem rstop_any {w : World} {B g : Nat} {s : List UInt8 × Bool} (h : RdAt w B g s) :
    Calls Try.prog 53 #[.pointer (some ⟨g, 0, none⟩)] w fun e w' => e = .returned (.tuple #[]) ∧ RdV w w' B g ([], true) := by
  obtain ⟨hg, v, hr, hl⟩ := h
  obtain ⟨l, b⟩ := s
  dsimp only at hr hl
  have HE := Lib.hid (rd_store (b2 := true) hg hr (bySl_nil w B))
  obtain ⟨a, c, rfl, _⟩ := id hl
  have c0 := Rw.cell hr (j := 0) rfl
  have c1 := Rw.cell hr (j := 1) rfl
  have f0 := Rw.free hr 0
  have hr2 := Rw.stored hr 0 (.slice none 0 0)
  have c2 : (w.setCell ⟨g, 0, none⟩ (.slice none 0 0)).cell? ⟨g, 1, none⟩ = some (.bool b) := Rw.cell hr2 (j := 1) rfl
  have f2 := Rw.free hr2 1
  clear hr hl hg hr2
  go_enter Try.func53, Try.ntmps53
  go_wp2_with fail
  go_end0
  exact ⟨rfl, HE.out⟩

/-- rest[:n]. -/
theorem slice_to2 {P : Program} {T : TypeId} (ht : P.underlying T = some (.slice (P.elem T))) (hs : (P.info? (P.elem T)).map (·.size) = some 1) {w : World} {B : Nat} (a : Option Addr) (len cap t : Nat) (l : List UInt8) (h : t ≤ cap) (hl : Lies w B a l) :
    ∃ A, Lies w B A (l.take t) ∧ ∀ W, (Instr.slice T (.slice a len cap) none (some (.int .i64 (t : Int))) none).run P W = .ok (.slice A t cap) W := by
  refine ⟨if cap = 0 then a else a.map (·.add (0 * 1)), ?_, fun W => ?_⟩
  · rcases hl with rfl | ⟨b, o, rfl, hb, hby⟩
    · exact .inl (by simp)
    · refine .inr ⟨b, o, ?_, hb, fun j x hj => ?_⟩
      · split
        · rfl
        · simp [Addr.add_mid]
      · rw [List.getElem?_take] at hj
        split at hj
        · exact hby j x hj
        · cases hj
  · rw [run_slice_h W T a len cap ht .i64 t (by omega) (by omega), run_size1 hs]
    simp [Result.andThen, sliced]

/-- rest[n:]. -/
theorem slice_from2 {P : Program} {T : TypeId} (ht : P.underlying T = some (.slice (P.elem T))) (hs : (P.info? (P.elem T)).map (·.size) = some 1) {w : World} {B : Nat} (a : Option Addr) (cap t : Nat) (l : List UInt8) (h : t ≤ l.length) (hc : l.length ≤ cap) (hl : Lies w B a l) :
    ∃ A, Lies w B A (l.drop t) ∧ ∀ W, (Instr.slice T (.slice a l.length cap) (some (.int .i64 (t : Int))) none none).run P W = .ok (.slice A (l.length - t) (cap - t)) W := by
  refine ⟨if cap = t then a else a.map (·.add t), ?_, fun W => ?_⟩
  · rcases hl with rfl | ⟨b, o, rfl, hb, hby⟩
    · exact .inl (by simp)
    · by_cases he : cap = t
      · exact .inl (List.drop_of_length_le (by omega))
      · rw [if_neg he]
        refine .inr ⟨b, o + t, by simp [Addr.add_mid], hb, fun j x hj => ?_⟩
        rw [List.getElem?_drop] at hj
        rw [Nat.add_assoc]
        exact hby (t + j) x hj
  · rw [run_slice_l W T a l.length cap ht .i64 t (by omega) (by omega), run_size1 hs]
    simp [Result.andThen, sliced]

theorem Try.elemBy : Try.prog.underlying 30 = some (.slice (Try.prog.elem 30)) := by kernel_rfl

theorem Try.sizeBy : (Try.prog.info? (Try.prog.elem 30)).map (·.size) = some 1 := by kernel_rfl

def TakeV (w w' : World) (B g : Nat) (e : Ending) (q : List UInt8 × List UInt8 × Bool) : Prop := ∃ v', e = .returned v' ∧ BySl w' B v' q.1 ∧ RdV w w' B g q.2

set_option maxHeartbeats 1000000 in
theorem rtake_any {w : World} {B g : Nat} {s : List UInt8 × Bool} (h : RdAt w B g s) (N : Nat) :
    Calls Try.prog 52 #[.pointer (some ⟨g, 0, none⟩), .int .i64 N] w fun e w' => TakeV w w' B g e (takeR N s) := by
  have HST := Lib.hid (rstop_any h)
  obtain ⟨hg, v, hr, hl⟩ := h
  obtain ⟨l, b⟩ := s
  dsimp only at hr hl
  obtain ⟨a, c, rfl, hc, hli⟩ := id hl
  obtain ⟨q, hq⟩ : ∃ q, q = takeR N (l, b) := ⟨_, rfl⟩
  rw [← hq]
  obtain ⟨L, hL⟩ : ∃ L, L = l.length := ⟨_, rfl⟩
  by_cases hlt : l.length < N
  · have HQ : Hid (q = ([], [], true)) := Lib.hid (by rw [hq]; unfold takeR; rw [if_pos hlt])
    rw [← hL] at hr hlt
    have c0 := Rw.cell hr (j := 0) rfl
    have hn : (L : Int) < (N : Int) := by omega
    clear hg hr hl hc hli hq hlt hL
    go_enter Try.func52, Try.ntmps52
    go_wp2_with fail
    refine (HST.out).mono ?_
    rintro e w1 ⟨rfl, hv⟩
    have HV := Lib.hid hv
    clear hv
    go_wp2_with fail
    go_ret
    refine ⟨.slice none 0 0, rfl, ?_, ?_⟩
    · rw [HQ.out]; exact bySl_nil _ _
    · rw [HQ.out]; exact HV.out
  · have HQ : Hid (q = (l.take N, l.drop N, b)) := Lib.hid (by rw [hq]; unfold takeR; rw [if_neg hlt])
    obtain ⟨A1, hA1, hs1⟩ := slice_to2 Try.elemBy Try.sizeBy (w := w) (B := B) a l.length c N l (by omega) hli
    obtain ⟨A2, hA2, hs2⟩ := slice_from2 Try.elemBy Try.sizeBy (w := w) (B := B) a c N l (by omega) hc hli
    have HT : Hid (BySl w B (.slice A1 N c) (l.take N)) := Lib.hid ⟨A1, c, by rw [List.length_take, Nat.min_eq_left (by omega)], by rw [List.length_take]; omega, hA1⟩
    have HD : Hid (BySl w B (.slice A2 (l.length - N) (c - N)) (l.drop N)) := Lib.hid ⟨A2, c - N, by rw [List.length_drop], by rw [List.length_drop]; omega, hA2⟩
    have HE := Lib.hid (rd_store1 (b := b) hg hr HD.out)
    rw [← hL] at hr hlt hs1 hs2 HD HE
    have c0 := Rw.cell hr (j := 0) rfl
    have f0 := Rw.free hr 0
    have hn : ¬ (L : Int) < (N : Int) := by omega
    have HG := Lib.hid hg
    obtain ⟨L2, hL2⟩ : ∃ L2, L2 = L - N := ⟨_, rfl⟩
    obtain ⟨C2, hC2⟩ : ∃ C2, C2 = c - N := ⟨_, rfl⟩
    rw [← hL2, ← hC2] at hs2 HE
    clear hg hr hl hc hli hq hlt hL hA1 hA2 hL2 hC2
    go_enter Try.func52, Try.ntmps52
    go_wp2_with fail
    go_ret
    refine ⟨.slice A1 N c, rfl, ?_, ?_⟩
    · rw [HQ.out]; exact bySl_kept HT.out HG.out HE.out.2
    · rw [HQ.out]; exact HE.out

end Go.Proofs.Ytiblaengkkpbiaa
