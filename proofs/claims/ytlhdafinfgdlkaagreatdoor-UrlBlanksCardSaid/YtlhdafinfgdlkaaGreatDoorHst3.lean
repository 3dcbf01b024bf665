/- The code's dotted and Text: an address written. -/
import Derived.Test.YtlhdafinfgdlkaaGreatDoorShelf
import Derived.Lib.Join
import Derived.Test.YtlhdafinfgdlkaaGreatDoorProg
import Derived.Test.YtlhdafinfgdlkaaGreatDoorKit
import Derived.Test.YtlhdafinfgdlkaaGreatDoorPlain
import Derived.Test.YtlhdafinfgdlkaaGreatDoorAsc8
import Derived.Test.YtlhdafinfgdlkaaGreatDoorRow
import Derived.Test.YtlhdafinfgdlkaaGreatDoorHst0
namespace Go.Proofs.YtlhdafinfgdlkaaGreatDoor
open Go.RowKit Go.Proofs
set_option maxRecDepth 100000

/-- The library's table of powers of ten. -/
def Tab10 (w : World) : Prop := Lib.TabIs Tryz.prog w "internal/strconv.uint64pow10" .u64 Lib.pow10Tab

theorem tab10_below {w w' : World} (h : Tab10 w) (hb : Below w.heap.size w w') : Tab10 w' := tab_below hb h

theorem sl_at {w : World} {a : Option Addr} {k c : Nat} {xs : List Value} (h : SliceAt w (.slice a k c) xs) {j : Nat} {x : Value} (hx : xs[j]? = some x) : ∃ b off, a = some ⟨b, off, none⟩ ∧ w.cell? ⟨b, off + j, none⟩ = some x := by
  obtain ⟨a2, c2, e, h2⟩ := h
  injection e with e1 e2 e3
  subst e1 e3
  rcases h2 with rfl | ⟨b, off, rfl, h2⟩
  · simp at hx
  · exact ⟨b, off, rfl, h2 j x hx⟩

def itoV (x : UInt8) : Value := .string ⟨(Lib.itoa (x.toNat : Int)).toArray⟩

theorem itoa_small (x : UInt8) : (Lib.itoa (x.toNat : Int)).length ≤ 3 := itoa_len ⟨x.toNat, x.toNat_lt⟩

theorem hdotted_any (bs : List UInt8) (h4 : bs.length = 4) (a : Option Addr) (c : Nat) (w : World) (hv : SliceAt w (.slice a 4 c) (bs.map byteV)) (hT : Tab10 w) :
    Calls Tryz.prog 124 #[.slice a 4 c] w fun e w' => e = .returned (.string ⟨(Lib.join (bs.map (fun x => Lib.itoa (x.toNat : Int))) [46]).toArray⟩) ∧ Below w.heap.size w w' := by
  have HV := Lib.hid hv
  have HT := Lib.hid hT
  have H4 := Lib.hid h4
  clear hv hT h4
  have hmk : ∀ W : World, (Instr.makeSlice 39 (.int .i64 4) (.int .i64 4)).run Tryz.prog W = .ok (.slice (some ⟨W.heap.size, 0, none⟩) 4 4) (W.alloc (.cells (Array.replicate 4 (.string ByteArray.empty)) 9)) := fun W => by kernel_rfl
  have HR0 := Lib.hid (Rw.alloc w 9 (Array.replicate 4 (.string ByteArray.empty)) (base := w.heap.size) (Nat.le_refl _))
  have HB0 := Lib.hid (below_more (Below.refl w.heap.size w) (.cells (Array.replicate 4 (.string ByteArray.empty)) 9))
  go_enter Tryz.func124, Tryz.ntmps124
  go_wp2
  generalize w.alloc (.cells (Array.replicate 4 (.string ByteArray.empty)) 9) = w0 at HR0 HB0 ⊢
  go_loopw [11] (fun i wr => ∃ (k : Nat) (xs : List Value), k ≤ 4 ∧ i = .int .i64 k ∧ Hid (xs.length = 4) ∧ Hid (∀ j < k, xs[j]? = bs[j]?.map itoV) ∧ Hid (Rw wr w.heap.size w.heap.size 9 xs) ∧ Hid (Below w.heap.size w wr)) (fun i _ => 4 - (intOf i).toNat)
  case atStart => exact ⟨0, _, Nat.zero_le _, rfl, Lib.hid (by simp), Lib.hid (fun j hj => by omega), HR0, HB0⟩
  case round =>
    clear HR0 HB0 hmk
    obtain ⟨k, xs, hk, rfl, HL, HX, HR, HB⟩ := hrel
    obtain ⟨w1, hw1⟩ : ∃ w1 : World, w1 = wr := ⟨_, rfl⟩
    subst hw1
    by_cases hlt : k < 4
    · have hlz : (k : Int) < 4 := by omega
      obtain ⟨x, hx⟩ : ∃ x, bs[k]? = some x := ⟨_, List.getElem?_eq_getElem (by rw [H4.out]; exact hlt)⟩
      obtain ⟨b, off, rfl, hcell⟩ := sl_at (SliceAt.below HV.out HB.out) (j := k) (x := byteV x) (by rw [List.getElem?_map, hx]; rfl)
      unfold byteV at hcell
      have hxb := byte_bd x
      have HD := Lib.hid (fun W (hT : Tab10 W) => decimal_any (x.toNat : Int) (by omega) W hT)
      have HXX := Lib.hid hx
      obtain ⟨X, hX⟩ : ∃ X : Int, X = (x.toNat : Int) := ⟨_, rfl⟩
      rw [← hX] at hcell hxb HD
      have HXE := Lib.hid hX
      clear hX hx
      go_wp2_with fail
      refine (HD.out _ (tab10_below HT.out HB.out)).mono ?_
      rintro e w2 ⟨rfl, hb2⟩
      have hr2 := Rw.below HR.out hb2
      have HB2 := Lib.hid (below_then HB.out hb2)
      obtain ⟨y, hy⟩ : ∃ y, xs[k]? = some y := ⟨_, List.getElem?_eq_getElem (by rw [HL.out]; exact hlt)⟩
      have c1 := Rw.cell hr2 hy
      have f1 := Rw.free hr2 k
      have HR2 := Lib.hid hr2
      clear hb2 hr2 hy
      go_wp2
      go_roundw
      case rel =>
        refine ⟨k + 1, xs.set k (itoV x), by omega, by go_num, Lib.hid (by rw [List.length_set]; exact HL.out), Lib.hid ?_, Lib.hid ?_, Lib.hid ?_⟩
        · intro j hj
          by_cases he : j = k
          · subst he
            rw [List.getElem?_set_self (by rw [HL.out]; exact hlt), HXX.out]
            rfl
          · rw [List.getElem?_set_ne (Ne.symm he)]
            exact HX.out j (by omega)
        · have := Rw.stored HR2.out k (itoV x)
          unfold itoV at this ⊢
          rw [← HXE.out] at this ⊢
          exact this
        · exact HB2.out.setCell (p := ⟨w.heap.size, k, none⟩) (Nat.le_refl _) _
      case measure => simp [intOf]; omega
    · have hlz : ¬ (k : Int) < 4 := by omega
      have hk4 : k = 4 := by omega
      have hJ := Tryz.strings_Join w.heap.size 0 4 (bs.map (fun x => (⟨(Lib.itoa (x.toNat : Int)).toArray⟩ : ByteArray))) ⟨#[46]⟩ w1 (fun j x hj => by
          rw [List.getElem?_map] at hj
          obtain ⟨y, hy, rfl⟩ := Option.map_eq_some_iff.1 hj
          obtain ⟨hl, _⟩ := List.getElem?_eq_some_iff.1 hy
          rw [Nat.zero_add]
          refine Rw.cell HR.out ?_
          rw [HX.out j (by rw [H4.out] at hl; omega), hy]
          rfl) (Rw.size HR.out) (by rw [List.length_map, H4.out]; decide) (by rw [List.length_map, H4.out]; decide) (by
          rw [List.map_map]
          have h4 := H4.out
          match bs, h4 with
          | [a, b, c, d], _ =>
            have := itoa_small a
            have := itoa_small b
            have := itoa_small c
            have := itoa_small d
            simp only [List.map_cons, List.map_nil, Function.comp_apply]
            rw [Lib.join_length]
            simp [Lib.lens]
            omega)
      rw [List.length_map, H4.out, List.map_map] at hJ
      have HJ := Lib.hid hJ
      clear hJ
      go_wp2_with fail
      refine HJ.out.mono ?_
      rintro e w2 ⟨rfl, hb2⟩
      have HB2 := Lib.hid (below_then HB.out hb2)
      go_wp2
      go_ret
      exact ⟨rfl, HB2.out⟩

theorem join_four (p q r s : List UInt8) : Lib.join [p, q, r, s] [46] = joinD [p, q, r, s] := by
  simp [Lib.join, List.intercalate, joinD]

theorem htext_any (n : Nat) (hn : n < 4294967296) (w : World) (hT : Tab10 w) :
    Calls Tryz.prog 93 #[.int .u32 (n : Int)] w fun e w' => e = .returned (.string ⟨(textL n).toArray⟩) ∧ Below w.heap.size w w' := by
  obtain ⟨z, hz⟩ : ∃ z : Int, z = (n : Int) := ⟨_, rfl⟩
  have hz0 : 0 ≤ z ∧ z < 4294967296 := by omega
  rw [← hz]
  obtain ⟨bs, hbs⟩ : ∃ bs : List UInt8, bs = [UInt8.ofNat (n / 16777216 % 256), UInt8.ofNat (n / 65536 % 256), UInt8.ofNat (n / 256 % 256), UInt8.ofNat (n % 256)] := ⟨_, rfl⟩
  have e0 : ∀ m, ((UInt8.ofNat (m % 256)).toNat : Int) = (m % 256 : Nat) := fun m => by rw [UInt8.toNat_ofNat']; omega
  have HX : Hid (Lib.join (bs.map (fun x => Lib.itoa (x.toNat : Int))) [46] = textL n) := Lib.hid (by
    rw [hbs]
    simp only [List.map_cons, List.map_nil, e0]
    rw [join_four]
    rfl)
  have HM : Hid (bs.map byteV = [.int .u8 (z / 16777216 % 256), .int .u8 (z / 65536 % 256), .int .u8 (z / 256 % 256), .int .u8 (z % 256)]) := Lib.hid (by
    rw [hbs, hz]
    simp only [List.map_cons, List.map_nil, byteV, e0]
    simp)
  have HL : Hid (bs.length = 4) := Lib.hid (by rw [hbs]; rfl)
  have HT := Lib.hid hT
  clear hz hbs hT e0
  have d1 : z / 16777216 % 256 = z / 16777216 := by omega
  rw [d1] at HM
  go_enter Tryz.func93, Tryz.ntmps93
  go_wp2_with fail
  refine (hdotted_any bs HL.out _ 4 _ (by rw [HM.out]; exact SliceAt.lit _ _ _ _ _ rfl) (tab10_below HT.out (below_more (Below.refl _ _) _))).mono ?_
  rw [HX.out]
  rintro e w2 ⟨rfl, hb2⟩
  have HB2 := Lib.hid (below_then (below_more (Below.refl _ _) _) hb2)
  go_wp2
  go_ret
  exact ⟨rfl, HB2.out⟩

end Go.Proofs.YtlhdafinfgdlkaaGreatDoor
