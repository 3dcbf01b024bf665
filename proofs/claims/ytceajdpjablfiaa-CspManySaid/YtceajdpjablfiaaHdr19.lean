/- Rows of fields of the call's own; the same fields in another order and in great letters. -/
import Derived.Test.YtceajdpjablfiaaShelf
import Derived.Test.YtceajdpjablfiaaKit
import Derived.Test.YtceajdpjablfiaaRow
namespace Go.Proofs.Ytceajdpjablfiaa
open Go.RowKit Go.Proofs

theorem below_own_any {w w' : World} {base : Nat} {e : TypeId} {size : Nat} {v : Value} {n : Nat} {xs : List Value} (hown : w.ownsRow base e size v n xs) (hg : w.grownBy w' v.ownBlock) (hb : base ≤ w.heap.size) : Below base w w' := by
  refine (Below.refl base w).grown hg hb ?_
  intro k hk
  rcases hown.2 with ⟨hv, _⟩ | ⟨g, cap, cur, hv, hbg, _⟩
  · rw [hv] at hk; simp [Value.ownBlock] at hk
  · rw [hv] at hk; simp [Value.ownBlock] at hk; omega

end Go.Proofs.Ytceajdpjablfiaa
