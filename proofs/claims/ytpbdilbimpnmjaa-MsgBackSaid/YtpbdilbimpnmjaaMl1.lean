/- Contracts: what the document fixes of messages. -/
import Derived.BigRegion
import Derived.Deep.RegionHeld3
import Derived.Test.YtpbdilbimpnmjaaProg
import Derived.Test.YtpbdilbimpnmjaaKit
import Derived.Test.YtpbdilbimpnmjaaRow
import Derived.Test.YtpbdilbimpnmjaaCod7
import Derived.Test.YtpbdilbimpnmjaaMg0
import Derived.Test.YtpbdilbimpnmjaaMg5
import Derived.Test.YtpbdilbimpnmjaaMg10
import Derived.Test.YtpbdilbimpnmjaaMr3
namespace Go.Proofs.Ytpbdilbimpnmjaa
open Go.RowKit Go.Proofs

def awM : MsgM := ⟨2, 1, 2, 3, 0, 0, 0, true, [], zeroSn⟩

theorem awM_ok : okMB awM = true := by decide +kernel

def awB : List UInt8 := [2, 0, 0, 0, 0, 0, 0, 0, 1, 0, 0, 0, 0, 0, 0, 0, 2, 0, 0, 0, 0, 0, 0, 0, 3, 1]

theorem awM_enc : encW awM = awB := by decide +kernel

theorem awM_cod : codW awM = 0 := by unfold codW; rw [if_pos awM_ok]

theorem awM_small : smallM awM := ⟨fun n hn => by simp [awM] at hn; omega, fun e he => by simp [awM] at he, zeroSn_small⟩

theorem msgAt_nil (w : World) {m : MsgM} (h1 : m.es = []) (h2 : m.sn.ms = []) : MsgAt w (.slice none 0 0) (.slice none 0 0) m := by
  unfold MsgAt
  rw [h1, h2]
  exact ⟨ents_nil w, by simp, ints_nil w⟩

set_option maxRecDepth 100000 in
set_option maxHeartbeats 2000000 in
theorem mawake_any (w : World) : Calls Try.prog 8 #[] w fun e w' => e = .returned (.bool true) ∧ Below w.heap.size w w' := by
  have HEN := Lib.hid (encode_any (msgAt_nil w (m := awM) rfl rfl) awM_small)
  rw [awM_enc, awM_cod] at HEN
  have e1 : msgV awM (.slice none 0 0) (.slice none 0 0) = .agg #[.int .i64 2, .int .i64 1, .int .i64 2, .int .i64 3, .int .i64 0, .int .i64 0, .int .i64 0, .bool true, .slice none 0 0, .int .i64 0, .int .i64 0, .slice none 0 0, .string ⟨#[]⟩] := rfl
  rw [e1] at HEN
  clear e1
  go_enter Try.func8, Try.ntmps8
  go_wp2_with fail
  refine (HEN.out).mono ?_
  rintro e w1 ⟨v1, rfl, ho, hb⟩
  obtain ⟨g, c, rfl, _⟩ := own_some ho (by decide)
  have hl : awB.length = 26 := rfl
  rw [hl] at ho ⊢
  have c0 : w1.cell? ⟨g, 0, none⟩ = some (.int .u8 2) := World.ownsRow.cellAt ho 0 (by decide)
  have c8 : w1.cell? ⟨g, 8, none⟩ = some (.int .u8 1) := World.ownsRow.cellAt ho 8 (by decide)
  have c16 : w1.cell? ⟨g, 16, none⟩ = some (.int .u8 2) := World.ownsRow.cellAt ho 16 (by decide)
  have c24 : w1.cell? ⟨g, 24, none⟩ = some (.int .u8 3) := World.ownsRow.cellAt ho 24 (by decide)
  have c25 : w1.cell? ⟨g, 25, none⟩ = some (.int .u8 1) := World.ownsRow.cellAt ho 25 (by decide)
  have HB := Lib.hid hb
  clear ho hb hl HEN
  go_wp2_with fail
  go_ret
  exact ⟨rfl, HB.out⟩

end Go.Proofs.Ytpbdilbimpnmjaa
