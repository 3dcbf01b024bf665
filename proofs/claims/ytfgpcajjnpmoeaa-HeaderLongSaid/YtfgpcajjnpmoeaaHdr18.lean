/- Great letters; media types and what they become: plain words, and the law's upper. -/
import Derived.Test.YtfgpcajjnpmoeaaProg
import Derived.Test.YtfgpcajjnpmoeaaKit
import Derived.Test.YtfgpcajjnpmoeaaPlain
import Derived.Test.YtfgpcajjnpmoeaaRow
import Derived.Test.YtfgpcajjnpmoeaaHst0
import Derived.Test.YtfgpcajjnpmoeaaHdr0
namespace Go.Proofs.Ytfgpcajjnpmoeaa
open Go.RowKit Go.Proofs

def capB (c : UInt8) : UInt8 := if 97 ≤ (c.toNat : Int) ∧ (c.toNat : Int) ≤ 122 then c - 32 else c

def capL (l : List UInt8) : List UInt8 := l.map capB

theorem cap_yes {c : UInt8} (h : 97 ≤ (c.toNat : Int) ∧ (c.toNat : Int) ≤ 122) : ((capB c).toNat : Int) = c.toNat - 32 := byte_all (p := fun c => 97 ≤ (c.toNat : Int) ∧ (c.toNat : Int) ≤ 122 → ((capB c).toNat : Int) = c.toNat - 32) (by decide +kernel) c h

theorem cap_no {c : UInt8} (h : ¬ (97 ≤ (c.toNat : Int) ∧ (c.toNat : Int) ≤ 122)) : capB c = c := by unfold capB; rw [if_neg h]

theorem low_cap (c : UInt8) : lowB (capB c) = lowB c := byte_all (p := fun c => lowB (capB c) = lowB c) (by decide +kernel) c

theorem lowL_cap (l : List UInt8) : lowL (capL l) = lowL l := by
  unfold lowL capL
  rw [List.map_map]
  apply List.map_congr_left
  intro c _
  exact low_cap c

def capUpTo (l : List UInt8) (k : Nat) : List UInt8 := (l.take k).map capB ++ l.drop k

theorem capUpTo_len (l : List UInt8) (k : Nat) : (capUpTo l k).length = l.length := by simp [capUpTo]; omega

theorem capUpTo_set (l : List UInt8) (k : Nat) (c : UInt8) (h : l[k]? = some c) : ((capUpTo l k).map byteV).set k (byteV (capB c)) = (capUpTo l (k + 1)).map byteV := by
  obtain ⟨hk, rfl⟩ := List.getElem?_eq_some_iff.1 h
  have e1 : min k l.length = k := by omega
  unfold capUpTo
  rw [List.take_succ_eq_append_getElem hk, List.drop_eq_getElem_cons hk]
  simp only [List.map_append, List.map_cons, List.map_nil, List.append_assoc]
  rw [List.set_append_right _ _ (by simp; omega)]
  simp [e1]

theorem capUpTo_stay (l : List UInt8) (k : Nat) (c : UInt8) (h : l[k]? = some c) (hc : capB c = c) : capUpTo l (k + 1) = capUpTo l k := by
  obtain ⟨hk, rfl⟩ := List.getElem?_eq_some_iff.1 h
  unfold capUpTo
  rw [List.take_succ_eq_append_getElem hk, List.map_append, List.append_assoc]
  conv => rhs; rw [List.drop_eq_getElem_cons hk]
  simp [hc]

theorem capUpTo_at (l : List UInt8) (k : Nat) (c : UInt8) (h : l[k]? = some c) : ((capUpTo l k).map byteV)[k]? = some (.int .u8 c.toNat) := by
  obtain ⟨hk, rfl⟩ := List.getElem?_eq_some_iff.1 h
  have e1 : min k l.length = k := by omega
  unfold capUpTo
  rw [List.drop_eq_getElem_cons hk]
  simp only [List.map_append, List.map_cons, List.map_map]
  rw [List.getElem?_append_right (by simp; omega)]
  simp [e1, byteV]

theorem capUpTo_all (l : List UInt8) (k : Nat) (h : l.length ≤ k) : capUpTo l k = capL l := by
  unfold capUpTo capL
  rw [List.take_of_length_le h, List.drop_eq_nil_of_le h, List.append_nil]

theorem byteV_cap {c : UInt8} (h : 97 ≤ (c.toNat : Int) ∧ (c.toNat : Int) ≤ 122) : Value.int .u8 ((c.toNat : Int) - 32) = byteV (capB c) := by unfold byteV; rw [cap_yes h]

theorem upper_any (s : ByteArray) (hs : s.size ≤ 1073741824) (w : World) :
    Calls Try.prog 28 #[.string s] w fun e w' => (∃ c, e = .returned (.slice (some ⟨w.heap.size, 0, none⟩) s.size c) ∧ Buf w' w.heap.size 5 ((capL s.data.toList).map byteV)) ∧ Below w.heap.size w w' := by
  have kc := run_bytes_of_string (P := Try.prog) w 9 39 5 s Try.underlying9 Try.underlying39 Try.underlying5
  have hcap := grownCap_le w s.size 0 5
  have hbuf := Buf.bytes (w := w) (e := 5) s _ hcap
  have hbel : Below w.heap.size w (w.alloc (.cells (bytesRow s (grownCap w s.size 0 5)) 5 ((bytesRow s (grownCap w s.size 0 5)).size, (bytesRow s (grownCap w s.size 0 5)).size + 1))).drew := ((Below.refl _ _).alloc (Nat.le_refl _) _).drew
  have hsl : s.data.toList.length = s.size := by simp
  go_enter Try.func28, Try.ntmps28
  go_wp2
  go_loopw [4] (fun i wr => ∃ k : Nat, k ≤ s.size ∧ i = .int .i64 k ∧ Buf wr w.heap.size 5 ((capUpTo s.data.toList k).map byteV) ∧ Below w.heap.size w wr) (fun i _ => s.size - (intOf i).toNat)
  case atStart => exact ⟨0, Nat.zero_le _, rfl, by simpa [capUpTo] using hbuf, hbel⟩
  case round =>
    clear hbuf hbel kc
    obtain ⟨k, hk, rfl, hb, hnx⟩ := hrel
    have hsz := hnx.size
    by_cases hlt : k < s.size
    · obtain ⟨c, hc0⟩ : ∃ c, s.data.toList[k]? = some c := ⟨_, List.getElem?_eq_getElem (by omega)⟩
      have hc := Buf.at hb (capUpTo_at _ _ _ hc0)
      have hf := Buf.free hb k (by rw [List.length_map, capUpTo_len, hsl]; exact hlt)
      have hbd := byte_bd c
      have hki : (k : Int) < (s.size : Int) := by omega
      by_cases h97 : 97 ≤ (c.toNat : Int)
      · by_cases h122 : (c.toNat : Int) ≤ 122
        · have hst := Buf.stored hb k (byteV (capB c))
          rw [capUpTo_set _ _ _ hc0, ← byteV_cap ⟨h97, h122⟩] at hst
          have HST := Lib.hid hst
          have HSL := Lib.hid hsl
          clear hc0 hsl hst
          go_wp2_with fail
          go_roundw
          case rel => exact ⟨k + 1, by omega, by go_num, HST.out, hnx.setCell (Nat.le_refl _) _⟩
          case measure => simp [intOf]; omega
        · have HST : Hid (Buf wr w.heap.size 5 ((capUpTo s.data.toList (k + 1)).map byteV)) := Lib.hid (by rw [capUpTo_stay _ _ _ hc0 (cap_no (by omega))]; exact hb)
          have HSL := Lib.hid hsl
          clear hc0 hsl
          go_wp2_with fail
          go_roundw
          case rel => exact ⟨k + 1, by omega, by go_num, HST.out, hnx⟩
          case measure => simp [intOf]; omega
      · have HST : Hid (Buf wr w.heap.size 5 ((capUpTo s.data.toList (k + 1)).map byteV)) := Lib.hid (by rw [capUpTo_stay _ _ _ hc0 (cap_no (by omega))]; exact hb)
        have HSL := Lib.hid hsl
        clear hc0 hsl
        go_wp2_with fail
        go_roundw
        case rel => exact ⟨k + 1, by omega, by go_num, HST.out, hnx⟩
        case measure => simp [intOf]; omega
    · rw [capUpTo_all _ _ (by omega)] at hb
      clear hsl
      go_wp2
      go_ret
      exact ⟨⟨_, rfl, hb⟩, hnx⟩

/-! the law's media types -/
def litsL : List (List UInt8) := [[116, 101, 120, 116, 47, 112, 108, 97, 105, 110], [109, 117, 108, 116, 105, 112, 97, 114, 116, 47, 102, 111, 114, 109, 45, 100, 97, 116, 97], [97, 112, 112, 108, 105, 99, 97, 116, 105, 111, 110, 47, 120, 45, 119, 119, 119, 45, 102, 111, 114, 109, 45, 117, 114, 108, 101, 110, 99, 111, 100, 101, 100], [97, 112, 112, 108, 105, 99, 97, 116, 105, 111, 110, 47, 106, 115, 111, 110], [116, 101, 120, 116, 47, 104, 116, 109, 108], [116, 101, 120, 116], [116, 101, 120, 116, 47], [97, 47, 98, 47, 99]]

def sufL : List UInt8 := [32, 59, 32, 99, 104, 97, 114, 115, 101, 116, 61, 117, 116, 102, 45, 56]

def ctnL : List UInt8 := [99, 111, 110, 116, 101, 110, 116, 45, 84, 89, 80, 69]

def mkL (r : Nat) (p g : Bool) : List UInt8 := (if g then 9 :: capL (litsL.getD r []) else litsL.getD r []) ++ (if p then sufL else [])

def mvL (r : Nat) (p g : Bool) : List UInt8 := if g then (mkL r p g).drop 1 else mkL r p g

theorem typ_all : ∀ r : Fin 8, ∀ p g : Bool, essB (mkL r.val p g) = decide (r.val < 5) ∧ (r.val < 5 → essL (mkL r.val p g) = litsL.getD r.val []) ∧ simB ctnL (mvL r.val p g) = decide (r.val < 3) ∧ (mkL r.val p g).length ≤ 60 := by decide +kernel

theorem typ_facts (r : Nat) (hr : r < 8) (p g : Bool) : essB (mkL r p g) = decide (r < 5) ∧ (r < 5 → essL (mkL r p g) = litsL.getD r []) ∧ simB ctnL (mvL r p g) = decide (r < 3) ∧ (mkL r p g).length ≤ 60 := typ_all ⟨r, hr⟩ p g

end Go.Proofs.Ytfgpcajjnpmoeaa
