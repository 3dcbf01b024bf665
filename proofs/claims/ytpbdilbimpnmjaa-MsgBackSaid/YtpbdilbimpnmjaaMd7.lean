/- Contracts: msg: the reader: a message; Decode. -/
import Derived.BigRegion
import Derived.Deep.RegionHeld3
import Derived.Test.YtpbdilbimpnmjaaProg
import Derived.Test.YtpbdilbimpnmjaaKit
import Derived.Test.YtpbdilbimpnmjaaRow
import Derived.Test.YtpbdilbimpnmjaaKp0
import Derived.Test.YtpbdilbimpnmjaaKp1
import Derived.Test.YtpbdilbimpnmjaaMg0
import Derived.Test.YtpbdilbimpnmjaaMg5
import Derived.Test.YtpbdilbimpnmjaaMd1
import Derived.Test.YtpbdilbimpnmjaaMd6
import Derived.Test.YtpbdilbimpnmjaaMd6k3
import Derived.Test.YtpbdilbimpnmjaaMd6k5
namespace Go.Proofs.Ytpbdilbimpnmjaa
open Go.RowKit Go.Proofs

theorem rmessage_any {w : World} {B g : Nat} {s : List UInt8 × Bool} (h : RdAt w B g s) :
    Calls Try.prog 23 #[.pointer (some ⟨g, 0, none⟩)] w fun e w' => MsgRV w w' B g e (msgR s) := by
  by_cases h1 : (numR 1 s).1 = 1
  · exact rmessage_k1 h h1
  by_cases h2 : (numR 1 s).1 = 2
  · exact rmessage_k2 h h2
  by_cases h3 : (numR 1 s).1 = 3
  · exact rmessage_k3 h h3
  by_cases h4 : (numR 1 s).1 = 4
  · exact rmessage_k4 h h4
  by_cases h5 : (numR 1 s).1 = 5
  · exact rmessage_k5 h h5
  exact rmessage_k6 h ⟨h1, h2, h3, h4, h5⟩

def decC (l : List UInt8) : Int := if goodR l = true then 0 else 7

def DecV (w w' : World) (e : Ending) (l : List UInt8) : Prop := ∃ ev mv, e = .returned (.tuple #[msgV (decR l) ev mv, .int .i64 (decC l)]) ∧ MsgOwn w' ev mv (decR l) ∧ Below w.heap.size w w'

theorem decV_no {w w' : World} {l : List UInt8} (h : goodR l = false) (hb : Below w.heap.size w w') : DecV w w' (.returned (.tuple #[.agg #[.int .i64 0, .int .i64 0, .int .i64 0, .int .i64 0, .int .i64 0, .int .i64 0, .int .i64 0, .bool false, .slice none 0 0, .int .i64 0, .int .i64 0, .slice none 0 0, .string ⟨#[]⟩], .int .i64 7])) l := by
  refine ⟨.slice none 0 0, .slice none 0 0, ?_, ?_, hb⟩
  · unfold decR decC; rw [if_neg (by rw [h]; decide), if_neg (by rw [h]; decide)]; rfl
  · unfold decR; rw [if_neg (by rw [h]; decide)]; exact ⟨ownE_nil _, by simp [zeroMs], World.ownsRow_nil _ _ _ _, by simp [zeroMs, zeroSn]⟩

theorem msgOwn_stores {w : World} {ev mv : Value} {m : MsgM} {gR : Nat} {cs : List Value} (h : MsgOwn w ev mv m) (hr : Rw w 0 gR 27 cs) (xs : List Value) : MsgOwn (w.setCells gR 0 xs) ev mv m := by
  obtain ⟨⟨ns, h1, h2⟩, h3, h4, h5⟩ := h
  exact ⟨⟨ns, h1, own_stores h2.1 hr (by decide) 0 _, fun r hr2 => ⟨own_stores (h2.2 r hr2).1 hr (by decide) 0 _, (h2.2 r hr2).2⟩⟩, h3, own_stores h4 hr (by decide) 0 _, h5⟩

theorem msgOwn_below {w w' : World} {ev mv : Value} {m : MsgM} (h : MsgOwn w ev mv m) (hb : Below w.heap.size w w') : MsgOwn w' ev mv m := by
  obtain ⟨⟨ns, h1, h2⟩, h3, h4, h5⟩ := h
  exact ⟨⟨ns, h1, ownE_below h2 hb⟩, h3, own_below h4 hb, h5⟩

theorem below_stores {w W : World} {g : Nat} (hb : Below w.heap.size w W) (hg : w.heap.size ≤ g) (xs : List Value) : Below w.heap.size w (W.setCells g 0 xs) := below_setCells hg xs 0 W hb

theorem goodR_not {l : List UInt8} (h : (msgR (l, false)).2.2 = true ∨ 0 < (msgR (l, false)).2.1.length ∨ okMB (msgR (l, false)).1 = false) : goodR l = false := by
  unfold goodR
  rcases h with h | h | h
  · rw [h]; rfl
  · rw [decide_eq_false (by omega)]; simp
  · rw [h]; simp

theorem goodR_yes {l : List UInt8} (h1 : (msgR (l, false)).2.2 = false) (h2 : (msgR (l, false)).2.1.length = 0) (h3 : okMB (msgR (l, false)).1 = true) : goodR l = true ∧ decR l = (msgR (l, false)).1 ∧ decC l = 0 := by
  have hg : goodR l = true := by unfold goodR; rw [h1, decide_eq_true h2, h3]; rfl
  exact ⟨hg, by unfold decR; rw [if_pos hg], by unfold decC; rw [if_pos hg]⟩

end Go.Proofs.Ytpbdilbimpnmjaa
