/- Contracts: membership in a list of texts; the sum of lengths; what the document fixes. -/
import Derived.Test.YtfbimjfgklldaaaDoorProg
import Derived.Test.YtfbimjfgklldaaaDoorKit
import Derived.Test.YtfbimjfgklldaaaDoorAsc4
import Derived.Test.YtfbimjfgklldaaaDoorAsc5
import Derived.Test.YtfbimjfgklldaaaDoorAsc6
namespace Go.Proofs.YtfbimjfgklldaaaDoor
open Go.RowKit Go.Proofs

theorem awake_any (w : World) : Calls Tryd.prog 5 #[] w fun e w' => e = .returned (.bool true) ∧ Below w.heap.size w w' := by
  have HS : Hid (splitL [97, 44, 44, 98] 44 = [[97], [], [98]]) := Lib.hid (by decide)
  have HB : Hid (wordsL [9, 97, 32, 32, 98] = [[97], [98]]) := Lib.hid (by decide)
  have HN : Hid (numOk [48, 48, 55] 9 = false) := Lib.hid (by decide)
  go_enter Tryd.func5, Tryd.ntmps5
  go_wp2_with fail
  refine (number_any ⟨#[48, 48, 55]⟩ 9 (by decide) (by decide) _).mono ?_
  rw [show numOk (⟨#[48, 48, 55]⟩ : ByteArray).data.toList 9 = false from HN.out]
  rintro e w' ⟨rfl, rfl⟩
  go_wp2_with fail
  refine (split_any ⟨#[97, 44, 44, 98]⟩ 44 (by decide) _).mono ?_
  rw [show splitL (⟨#[97, 44, 44, 98]⟩ : ByteArray).data.toList 44 = [[97], [], [98]] from HS.out]
  rintro e w1 ⟨⟨v1, rfl, hown1⟩, hb1⟩
  go_wp2_with fail
  refine (texts_any v1 _ [[97], [], [98]] [[97], [], [98]] _ (SliceAt.own (hown1.alloc _)) (SliceAt.lit _ _ _ _ _ rfl) (by decide) (by decide)).mono ?_
  rw [show eqLL [[97], [], [98]] [[97], [], [98]] = true from rfl]
  rintro e w2 ⟨rfl, hm2⟩
  have HM2 := Lib.hid hm2
  clear hm2
  go_wp2_with fail
  refine (blanks_any ⟨#[9, 97, 32, 32, 98]⟩ (by decide) _).mono ?_
  rw [show wordsL (⟨#[9, 97, 32, 32, 98]⟩ : ByteArray).data.toList = [[97], [98]] from HB.out]
  rintro e w3 ⟨⟨v3, rfl, hown3⟩, hb3⟩
  go_wp2_with fail
  refine (texts_any v3 _ [[97], [98]] [[97], [98]] _ (SliceAt.own (hown3.alloc _)) (SliceAt.lit _ _ _ _ _ rfl) (by decide) (by decide)).mono ?_
  rw [show eqLL [[97], [98]] [[97], [98]] = true from rfl]
  rintro e w4 ⟨rfl, hm4⟩
  have HM4 := Lib.hid hm4
  clear hm4
  go_wp2
  go_ret
  exact ⟨rfl, below_draws (below_more (below_then (below_draws (below_more hb1 _) HM2.out) hb3) _) HM4.out⟩

end Go.Proofs.YtfbimjfgklldaaaDoor
