/- Contracts: what the document fixes of frames. -/
import Derived.BigRegion
import Derived.Deep.RegionHeld3
import Derived.Test.YtblocggiljdamaaDoorProg
import Derived.Test.YtblocggiljdamaaDoorKit
import Derived.Test.YtblocggiljdamaaDoorRow
import Derived.Test.YtblocggiljdamaaDoorU32
import Derived.Test.YtblocggiljdamaaDoorCod7
import Derived.Test.YtblocggiljdamaaDoorCod8
import Derived.Test.YtblocggiljdamaaDoorCod9
import Derived.Test.YtblocggiljdamaaDoorJoin
import Derived.Test.YtblocggiljdamaaDoorFrm0
import Derived.Test.YtblocggiljdamaaDoorFrm3
import Derived.Test.YtblocggiljdamaaDoorFrm4
import Derived.Test.YtblocggiljdamaaDoorFrm5
import Derived.Test.YtblocggiljdamaaDoorFrm6
namespace Go.Proofs.YtblocggiljdamaaDoor
open Go.RowKit Go.Proofs

theorem byteSl_lit (w : World) (l : List UInt8) (cs : Array Value) (e : TypeId) (fr : Nat × Nat) (n g : Nat) (h : cs = (l.map byteV).toArray) (hn : n = l.length) (hg : g = w.heap.size) : ByteSl (w.alloc (.cells cs e fr)) (w.alloc (.cells cs e fr)).heap.size (.slice (some ⟨g, 0, none⟩) n n) l := by
  subst hn hg
  exact .inr ⟨_, _, rfl, Nat.le_refl _, .inr ⟨w.heap.size, 0, rfl, by simp, byAt_alloc w l e fr cs h⟩⟩

/-- A literal of one part. -/
theorem partsB_one (w : World) (v : Value) (e : TypeId) (fr : Nat × Nat) (l : List UInt8) (g : Nat) (h : ByteSl w w.heap.size v l) (hg : g = w.heap.size) : PartsB (w.alloc (.cells #[v] e fr)) (w.alloc (.cells #[v] e fr)).heap.size (.slice (some ⟨g, 0, none⟩) 1 1) [l] := by
  subst hg
  refine .inr ⟨_, 1, rfl, .inr ⟨w.heap.size, 0, rfl, by simp, fun j m hj => ?_⟩⟩
  match j, hj with
  | 0, hj =>
    cases hj
    refine ⟨v, by rw [Nat.zero_add, alloc_cell]; rfl, ?_⟩
    rcases h with h | ⟨ad, c, hv, hc, hl⟩
    · exact .inl h
    · refine .inr ⟨ad, c, hv, hc, ?_⟩
      rcases hl with h0 | ⟨b, o, ha, hb, hat⟩
      · exact .inl h0
      · exact .inr ⟨b, o, ha, by simp; omega, ByAt.more hat _⟩

theorem ByteSl.more3 {w : World} {B B' : Nat} {v : Value} {l : List UInt8} (h : ByteSl w B v l) (hB : B ≤ B') : ByteSl w B' v l := by
  rcases h with h | ⟨ad, c, hv, hc, hl⟩
  · exact .inl h
  · exact .inr ⟨ad, c, hv, hc, Lies.more hl hB⟩

theorem flat_one (l : List UInt8) : ([l] : List (List UInt8)).flatten = l := by simp

theorem nibs_eq : (~~~ (List.foldl (fun c (b : UInt8) => nib (nib (c ^^^ b.toUInt32))) (0xffffffff : UInt32) [49, 50, 51, 52, 53, 54, 55, 56, 57])) = (3421780262 : UInt32) := by decide +kernel

theorem crc_nib (l : List UInt8) : crcS l = ~~~ (l.foldl (fun c b => nib (nib (c ^^^ b.toUInt32))) 0xffffffff) := by
  unfold crcS crcFrom
  have : (crcByte : UInt32 → UInt8 → UInt32) = fun c b => nib (nib (c ^^^ b.toUInt32)) := by
    funext c b
    exact crcByte_nib c b
  rw [this]

theorem crc_digits : crcS [49, 50, 51, 52, 53, 54, 55, 56, 57] = 3421780262 := by rw [crc_nib]; exact nibs_eq

theorem next_two : nextS [0, 0] = ([], 0, 2) := next1 (by decide)

theorem next_ff : nextS [255, 0, 0, 0] = ([], 0, 3) := next2 (by decide) (by decide)

theorem frame_three : (frameS [97])[3]? = some 1 := rfl

set_option maxHeartbeats 1000000 in
theorem awake3_any (w : World) (ht : NibAt w) :
    Calls Tryd.prog 10 #[] w fun e w' => e = .returned (.bool true) ∧ Below w.heap.size w w' := by
  have kc : ∀ (W : World) (C : Array Value) (n c g : Nat), g = W.heap.size → (convert 23 23 (.slice (some ⟨g, 0, none⟩) n c)).run Tryd.prog (W.alloc (.cells C 5)) = .ok (.slice (some ⟨g, 0, none⟩) n c) (W.alloc (.cells C 5 (C.size, C.size + 1))) := fun W C n c g hg => by
    subst hg
    exact Lib.run_convert_bytes_const (P := Tryd.prog) W 23 5 C n c Tryd.underlying23 Tryd.underlying5
  have HT := Lib.hid ht
  clear ht
  go_enter Tryd.func10, Tryd.ntmps10
  go_wp2_with fail
  have hp := partsB_one (w.alloc (.cells #[.int .u8 97] 5 (1, 2))) (.slice (some ⟨w.heap.size, 0, none⟩) 1 1) 23 (0, 0) [97] (w.heap.size + 1) (byteSl_lit w [97] #[.int .u8 97] 5 (1, 2) 1 w.heap.size rfl rfl rfl) (by simp)
  have hb1 : Below w.heap.size w ((w.alloc (.cells #[.int .u8 97] 5 (1, 2))).alloc (.cells #[.slice (some ⟨w.heap.size, 0, none⟩) 1 1] 23)) := below_more (below_more (Below.refl _ _) _) _
  generalize (w.alloc (.cells #[.int .u8 97] 5 (1, 2))).alloc (.cells #[.slice (some ⟨w.heap.size, 0, none⟩) 1 1] 23) = w1 at hp hb1 ⊢
  have HB1 := Lib.hid hb1
  refine (put_any [[97]] _ w1 hp (nib_stay HT.out hb1) (by decide) (by decide)).mono ?_
  rintro e w2 ⟨hpv, hb2⟩
  unfold putV at hpv
  rw [flat_one] at hpv
  rcases hpv with ⟨_, g, C, rfl, hown⟩ | ⟨hbad, _⟩
  case inr => exact absurd hbad (by decide)
  have HO2 := Lib.hid hown
  have HB2 := Lib.hid (below_then HB1.out hb2)
  clear hp hb1 hb2 hown HB1
  go_wp2_with fail
  refine (next_any [0, 0] _ _ (byteSl_lit w2 [0, 0] #[.int .u8 0, .int .u8 0] 5 (0, 0) 2 w2.heap.size rfl rfl rfl) (nib_stay HT.out (below_more HB2.out _)) (by decide)).mono ?_
  rintro e w3 ⟨⟨v3, rfl, _⟩, hb3⟩
  rw [next_two]
  have hb23 := (below_more (Below.refl w2.heap.size w2) (.cells #[.int .u8 0, .int .u8 0] 5)).trans (hb3.mono (below_more (Below.refl w2.heap.size w2) (.cells #[.int .u8 0, .int .u8 0] 5)).size)
  have HO3 := Lib.hid (own_below HO2.out hb23)
  have HB3 := Lib.hid (below_then HB2.out hb23)
  clear hb3 hb23 HO2 HB2
  go_wp2_with fail
  refine (next_any [255, 0, 0, 0] _ _ (byteSl_lit w3 [255, 0, 0, 0] #[.int .u8 255, .int .u8 0, .int .u8 0, .int .u8 0] 5 (0, 0) 4 w3.heap.size rfl rfl rfl) (nib_stay HT.out (below_more HB3.out _)) (by decide)).mono ?_
  rintro e w4 ⟨⟨v4, rfl, _⟩, hb4⟩
  rw [next_ff]
  have hb34 := (below_more (Below.refl w3.heap.size w3) (.cells #[.int .u8 255, .int .u8 0, .int .u8 0, .int .u8 0] 5)).trans (hb4.mono (below_more (Below.refl w3.heap.size w3) (.cells #[.int .u8 255, .int .u8 0, .int .u8 0, .int .u8 0] 5)).size)
  have hown4 := own_below HO3.out hb34
  have hcell : w4.cell? ⟨g, 3, none⟩ = some (.int .u8 1) := (hown4.cellAt 3 (by decide)).trans (by rw [List.getElem?_map, frame_three]; rfl)
  have HB4 := Lib.hid (below_then HB3.out hb34)
  clear hb4 hb34 hown4 HO3 HB3
  go_wp2_with fail
  have hp := partsB_one (w4.alloc (.cells #[.int .u8 49, .int .u8 50, .int .u8 51, .int .u8 52, .int .u8 53, .int .u8 54, .int .u8 55, .int .u8 56, .int .u8 57] 5 (9, 10))) (.slice (some ⟨w4.heap.size, 0, none⟩) 9 9) 23 (0, 0) [49, 50, 51, 52, 53, 54, 55, 56, 57] (w4.heap.size + 1)
    (byteSl_lit w4 [49, 50, 51, 52, 53, 54, 55, 56, 57] #[.int .u8 49, .int .u8 50, .int .u8 51, .int .u8 52, .int .u8 53, .int .u8 54, .int .u8 55, .int .u8 56, .int .u8 57] 5 (9, 10) 9 w4.heap.size rfl rfl rfl) (by simp)
  have hb5 : Below w.heap.size w ((w4.alloc (.cells #[.int .u8 49, .int .u8 50, .int .u8 51, .int .u8 52, .int .u8 53, .int .u8 54, .int .u8 55, .int .u8 56, .int .u8 57] 5 (9, 10))).alloc (.cells #[.slice (some ⟨w4.heap.size, 0, none⟩) 9 9] 23)) := below_more (below_more HB4.out _) _
  generalize (w4.alloc (.cells #[.int .u8 49, .int .u8 50, .int .u8 51, .int .u8 52, .int .u8 53, .int .u8 54, .int .u8 55, .int .u8 56, .int .u8 57] 5 (9, 10))).alloc (.cells #[.slice (some ⟨w4.heap.size, 0, none⟩) 9 9] 23) = w5 at hp hb5 ⊢
  have HB5 := Lib.hid hb5
  refine (crc_any [[49, 50, 51, 52, 53, 54, 55, 56, 57]] _ w5 (PartsB.at hp) (nib_stay HT.out hb5) (by decide) (by decide)).mono ?_
  rintro e w6 ⟨rfl, hb6⟩
  rw [flat_one, crc_digits]
  have HB6 := Lib.hid (below_then HB5.out hb6)
  clear hp hb5 hb6 HB4 HB5 hcell kc
  unfold wV
  have hiw : iw 3421780262 = 3421780262 := rfl
  rw [hiw]
  go_wp2
  go_ret
  exact ⟨rfl, HB6.out⟩

end Go.Proofs.YtblocggiljdamaaDoor
