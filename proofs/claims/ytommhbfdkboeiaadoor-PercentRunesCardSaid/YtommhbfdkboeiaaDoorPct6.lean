/- Same, UTF8, and what the document fixes (awake): at this program, where the library's two tables lie as its text lays them. -/
import Derived.Test.YtommhbfdkboeiaaDoorShelf
import Derived.Test.YtommhbfdkboeiaaDoorVshelf
import Derived.Lib.Strings
import Derived.Test.YtommhbfdkboeiaaDoorProg
import Derived.Test.YtommhbfdkboeiaaDoorKit
import Derived.Test.YtommhbfdkboeiaaDoorRow
import Derived.Test.YtommhbfdkboeiaaDoorCod7
import Derived.Test.YtommhbfdkboeiaaDoorFrm4
import Derived.Test.YtommhbfdkboeiaaDoorPct0
import Derived.Test.YtommhbfdkboeiaaDoorPct3
import Derived.Test.YtommhbfdkboeiaaDoorPct4
namespace Go.Proofs.YtommhbfdkboeiaaDoor
open Go.RowKit Go.Proofs

/-- The library's two tables. -/
def Tabs9 (w : World) : Prop := Lib.Utf8Tabs 0 1 w

theorem tabs_below {w w' : World} (h : Tabs9 w) (hb : Below w.heap.size w w') : Tabs9 w' := Utf8Tabs_below h hb

theorem utf8_any (s : ByteArray) (hs : s.size ≤ 1073741824) (w : World) (hT : Tabs9 w) :
    Calls Tryd.prog 18 #[.string s] w fun e w' => e = .returned (.bool (Lib.validD s.data.toList)) ∧ Below w.heap.size w w' := by
  have hv := Tryd.utf8_ValidString s w (by omega) hT
  go_enter Tryd.func18, Tryd.ntmps18
  go_wp2_with fail
  refine hv.mono ?_
  rintro e w1 ⟨rfl, hb⟩
  go_wp2
  go_ret
  exact ⟨rfl, hb⟩

theorem same_any9 (a b : ByteArray) (ha : a.size ≤ 1073741824) (hb : b.size ≤ 1073741824) (w : World) :
    Calls Tryd.prog 17 #[.string a, .string b] w fun e w' => e = .returned (.bool (decide (decL a.data.toList = decL b.data.toList))) ∧ Below w.heap.size w w' := by
  by_cases he : decL a.data.toList = decL b.data.toList
  · rw [decide_eq_true he]
    have HE := Lib.hid he
    clear he
    go_enter Tryd.func17, Tryd.ntmps17
    go_wp2_with fail
    refine (decode_any a ha _).mono ?_
    rintro e w1 ⟨rfl, hb1⟩
    go_wp2_with fail
    refine (decode_any b hb _).mono ?_
    rw [← HE.out]
    rintro e w2 ⟨rfl, hb2⟩
    go_wp2
    go_ret
    exact ⟨rfl, below_then hb1 hb2⟩
  · rw [decide_eq_false he]
    have HE := Lib.hid he
    clear he
    go_enter Tryd.func17, Tryd.ntmps17
    go_wp2_with fail
    refine (decode_any a ha _).mono ?_
    rintro e w1 ⟨rfl, hb1⟩
    go_wp2_with fail
    refine (decode_any b hb _).mono ?_
    rintro e w2 ⟨rfl, hb2⟩
    go_wp2
    go_ret
    exact ⟨by simp [HE.out], below_then hb1 hb2⟩

theorem awake9_any (w : World) (hT : Tabs9 w) : Calls Tryd.prog 12 #[] w fun e w' => e = .returned (.bool true) ∧ Below w.heap.size w w' := by
  have HT := Lib.hid hT
  clear hT
  have c1 := fun W => encode_any ⟨#[97, 32, 98, 47, 63]⟩ (by decide) 3 W
  rw [show encL 3 (⟨#[97, 32, 98, 47, 63]⟩ : ByteArray).data.toList = [97, 37, 50, 48, 98, 47, 37, 51, 70] from by decide] at c1
  have c2 := fun W => decode_any ⟨#[37, 52, 97, 37, 122, 122, 37]⟩ (by decide) W
  rw [show decL (⟨#[37, 52, 97, 37, 122, 122, 37]⟩ : ByteArray).data.toList = [74, 37, 122, 122, 37] from by decide] at c2
  have c3 := fun W => utf8_any ⟨#[195, 169]⟩ (by decide) W
  rw [show Lib.validD (⟨#[195, 169]⟩ : ByteArray).data.toList = true from by decide] at c3
  have c4 := fun W => utf8_any ⟨#[255]⟩ (by decide) W
  rw [show Lib.validD (⟨#[255]⟩ : ByteArray).data.toList = false from by decide] at c4
  have C2 := Lib.hid c2
  have C3 := Lib.hid c3
  have C4 := Lib.hid c4
  clear c2 c3 c4
  go_enter Tryd.func12, Tryd.ntmps12
  go_wp2_with fail
  refine (c1 _).mono ?_
  rintro e w1 ⟨rfl, hb1⟩
  have HB1 := Lib.hid hb1
  clear hb1 c1
  go_wp2_with fail
  refine (C2.out _).mono ?_
  rintro e w2 ⟨rfl, hb2⟩
  have HB2 := Lib.hid (below_then HB1.out hb2)
  clear hb2
  go_wp2_with fail
  refine (C3.out _ (tabs_below HT.out HB2.out)).mono ?_
  rintro e w3 ⟨rfl, hb3⟩
  have HB3 := Lib.hid (below_then HB2.out hb3)
  clear hb3
  go_wp2_with fail
  refine (C4.out _ (tabs_below HT.out HB3.out)).mono ?_
  rintro e w4 ⟨rfl, hb4⟩
  have HB4 := Lib.hid (below_then HB3.out hb4)
  clear hb4
  go_wp2
  go_ret
  exact ⟨rfl, HB4.out⟩

end Go.Proofs.YtommhbfdkboeiaaDoor
