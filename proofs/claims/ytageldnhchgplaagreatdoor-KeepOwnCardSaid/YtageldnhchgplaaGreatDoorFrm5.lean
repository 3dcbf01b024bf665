/- Contracts: the code's Put. -/
import Derived.BigRegion
import Derived.Deep.RegionHeld3
import Derived.Test.YtageldnhchgplaaGreatDoorProg
import Derived.Test.YtageldnhchgplaaGreatDoorKit
import Derived.Test.YtageldnhchgplaaGreatDoorInfo
import Derived.Test.YtageldnhchgplaaGreatDoorRow
import Derived.Test.YtageldnhchgplaaGreatDoorU32
import Derived.Test.YtageldnhchgplaaGreatDoorSha
import Derived.Test.YtageldnhchgplaaGreatDoorRow2
import Derived.Test.YtageldnhchgplaaGreatDoorCod2
import Derived.Test.YtageldnhchgplaaGreatDoorCod5
import Derived.Test.YtageldnhchgplaaGreatDoorCod7
import Derived.Test.YtageldnhchgplaaGreatDoorCod9
import Derived.Test.YtageldnhchgplaaGreatDoorJoin
import Derived.Test.YtageldnhchgplaaGreatDoorFrm0
import Derived.Test.YtageldnhchgplaaGreatDoorFrm3
import Derived.Test.YtageldnhchgplaaGreatDoorFrm4
namespace Go.Proofs.YtageldnhchgplaaGreatDoor
open Go.RowKit Go.Proofs

/-- make([]T, n, c) of elements of one cell. -/
theorem wpList_make2 {P : Program} (w : World) {ops : Array Oper} {rest : List Oper} {o : Oper} {a : Act} {Q : Exit → Act → World → Prop}
    (hg : o.guard = none) (l c : Operand) (t : TypeId) (hop : o.op = Op.makeSlice t l c)
    (e : TypeId) (i : TypeInfo) (z : Value) (bytes : Nat) (h1 : P.underlying t = some (.slice e)) (h2 : P.info? e = some i) (h3 : i.zero = some z) (h4 : i.size = 1) (h5 : i.bytes = bytes) (hz : z.cells = #[z])
    (kl kc : IntKind) (L C : Int) (n m : Nat) (hl : a.eval l = .int kl L) (hc : a.eval c = .int kc C) (hL : L = (n : Int)) (hC : C = (m : Int)) (hnm : n ≤ m) (b2 : m < 1099511627776) (b3 : bytes ≤ 64)
    (hK : ∀ w', w'.ownsRow w.heap.size e 1 (.slice (some ⟨w.heap.size, 0, none⟩) n m) n (List.replicate n z) → Below w.heap.size w w' → wpList P ops Q rest (a.put o.dst (.slice (some ⟨w.heap.size, 0, none⟩) n m)) w') :
    wpList P ops Q (o :: rest) a w := by
  refine wpList_plain hg fun K hK' => ?_
  have hb : (i.bytes : Int) * (m : Int) ≤ 281474976710656 := by
    rw [h5]
    have : bytes * m ≤ 64 * 1099511627776 := Nat.mul_le_mul b3 (by omega)
    have h2 : ((bytes * m : Nat) : Int) ≤ 281474976710656 := by omega
    rwa [Int.natCast_mul] at h2
  have hr := run_make (P := P) w t e i z h1 h2 h3 kl kc n m (by omega) (by omega) hb (by omega)
  subst hL
  subst hC
  simp only [Int.toNat_natCast, h4, Nat.mul_one] at hr
  unfold Oper.wp
  simp [execOp, hop, hl, hc, hr, Result.andThen]
  refine hK' _ _ (hK _ ?_ (below_more (Below.refl _ _) _))
  refine ⟨by simp, .inr ⟨w.heap.size, m, _, rfl, Nat.le_refl _, heap_alloc_new w _, hnm, by unfold maxLen; omega, by rw [size_madeCells]; simp, ?_⟩⟩
  rw [hz, toList_madeCells_one, List.take_replicate, Nat.mul_one, Nat.min_eq_left hnm]

def zero8 : List UInt8 := [0, 0, 0, 0, 0, 0, 0, 0]

/-- The frame, step by step. -/
theorem put_steps (p : List UInt8) : putS (zero8 ++ p) 0 (be4 p.length) = be4 p.length ++ ([0, 0, 0, 0] ++ p) ∧ putS (be4 p.length ++ ([0, 0, 0, 0] ++ p)) 4 (be4 (crcS (be4 p.length ++ p)).toNat) = frameS p ∧
    (be4 p.length ++ ([0, 0, 0, 0] ++ p)).take 4 = be4 p.length ∧ (be4 p.length ++ ([0, 0, 0, 0] ++ p)).drop 8 = p := by
  refine ⟨?_, ?_, ?_, ?_⟩
  · unfold putS
    rw [be4_len, List.take_zero, List.nil_append]
    rfl
  · unfold putS frameS
    rw [be4_len, List.take_append_of_le_length (by rw [be4_len]; omega), List.take_of_length_le (by rw [be4_len]; omega)]
    rw [List.drop_append, be4_len, List.drop_of_length_le (by rw [be4_len]; omega)]
    rfl
  · rw [List.take_append_of_le_length (by rw [be4_len]; omega), List.take_of_length_le (by rw [be4_len]; omega)]
  · rw [List.drop_append, be4_len, List.drop_of_length_le (by rw [be4_len]; omega)]
    rfl

theorem byAt_own {w : World} {B g N C : Nat} {e : TypeId} {l : List UInt8} (h : w.ownsRow B e 1 (.slice (some ⟨g, 0, none⟩) N C) N (l.map byteV)) : ByAt w g 0 l := fun j x hj => by
  have hl : l.length = N := by have := h.1; simpa using this
  have hjl : j < l.length := (List.getElem?_eq_some_iff.1 hj).1
  rw [Nat.zero_add, h.cellAt j (by omega), List.getElem?_map, hj]
  rfl

theorem own_cap {w : World} {B g N C : Nat} {e : TypeId} {xs : List Value} (h : w.ownsRow B e 1 (.slice (some ⟨g, 0, none⟩) N C) N xs) : B ≤ g ∧ N ≤ C ∧ g < w.heap.size := by
  rcases h.2 with ⟨hv, _⟩ | ⟨g2, cap, cur, hv, hb, hh, hnc, _⟩
  · cases hv
  · injection hv with e1 e2 e3
    injection e1 with e1
    injection e1 with e1
    subst e1 e3
    refine ⟨hb, hnc, ?_⟩
    rcases Nat.lt_or_ge g w.heap.size with hg | hg
    · exact hg
    · rw [Array.getElem?_eq_none hg] at hh; cases hh

/-- What stands while the checksum is taken and written: the frame without or with it. -/
def PutAt (w : World) (g N C : Nat) (p : List UInt8) (W : World) : Prop := NibAt W ∧ Below w.heap.size w W ∧ W.ownsRow w.heap.size 5 1 (.slice (some ⟨g, 0, none⟩) N C) N ((be4 p.length ++ ([0, 0, 0, 0] ++ p)).map byteV)

theorem PutAt.nx3 {w W W' : World} {g N C : Nat} {p : List UInt8} (h : PutAt w g N C p W) (hb : Below W.heap.size W W') : PutAt w g N C p W' := ⟨nib_stay h.1 hb, below_then h.2.1 hb, own_below h.2.2 hb⟩

def putV (ls : List (List UInt8)) (base : Nat) (w' : World) (e : Ending) : Prop :=
  (ls.flatten.length ≤ 131072 ∧ ∃ g C, e = .returned (.tuple #[.slice (some ⟨g, 0, none⟩) (ls.flatten.length + 8) C, .bool true]) ∧ w'.ownsRow base 5 1 (.slice (some ⟨g, 0, none⟩) (ls.flatten.length + 8) C) (ls.flatten.length + 8) ((frameS ls.flatten).map byteV)) ∨
  (131072 < ls.flatten.length ∧ e = .returned (.tuple #[.slice none 0 0, .bool false]))

set_option maxHeartbeats 1000000 in
set_option maxRecDepth 100000 in
theorem put_any (ls : List (List UInt8)) (v : Value) (w : World) (hp : PartsB w w.heap.size v ls) (ht : NibAt w) (hl : ls.flatten.length < 4294967296) (hn : ls.length < 9223372036854775807) :
    Calls Tryz.prog 52 #[v] w fun e w' => putV ls w.heap.size w' e ∧ Below w.heap.size w w' := by
  obtain ⟨i0, hi, hz0, hz1, hz2⟩ := info_parts Tryz.infoByte
  have hlen := hp.len
  clear hp
  obtain ⟨A, C, rfl, hp⟩ := hlen
  obtain ⟨n, hnn⟩ : ∃ n, n = ls.length := ⟨_, rfl⟩
  rw [← hnn] at hn ⊢
  have HP := Lib.hid hp
  have HT := Lib.hid ht
  have HNN := Lib.hid hnn
  have HLL := Lib.hid hl
  have HN63 := Lib.hid hn
  clear hp hnn hl ht
  go_enter Tryz.func52, Tryz.ntmps52
  go_wp2_with fail
  go_loopw [4, 12] (fun s i wr => ∃ (k S : Nat), k ≤ n ∧ s = .int .i64 S ∧ i = .int .i64 k ∧ S ≤ 131072 ∧ Hid (S = (ls.take k).flatten.length) ∧ Hid (Below w.heap.size w wr)) (fun _ i _ => n - (intOf i).toNat)
  case atStart => exact ⟨0, 0, Nat.zero_le _, rfl, rfl, by omega, Lib.hid rfl, Lib.hid (Below.refl _ _)⟩
  case round =>
    obtain ⟨k, S, hk, rfl, rfl, hS, HS, HB⟩ := hrel
    obtain ⟨w1, hw1⟩ : ∃ w1 : World, w1 = wr := ⟨_, rfl⟩
    subst hw1
    by_cases hlt : k < n
    · obtain ⟨m, hm⟩ : ∃ m, ls[k]? = some m := ⟨_, List.getElem?_eq_getElem (by rw [← HNN.out]; exact hlt)⟩
      have hne : ls ≠ [] := by intro e; have := HNN.out; rw [e] at this; simp at this; omega
      obtain ⟨b, o, rfl, hbw, hcells⟩ := HP.out.resolve_left hne
      obtain ⟨u, hu, hsl⟩ := hcells k m hm
      obtain ⟨a, c, rfl, hmc, hlies⟩ := ByteSl.part hsl
      have hcell : w1.cell? ⟨b, o + k, none⟩ = some (.slice a m.length c) := (HB.out.cell (p := ⟨b, o + k, none⟩) hbw).trans hu
      have hle := flat_le hm
      have hml : m.length < 4294967296 := by have := HLL.out; omega
      have HF := Lib.hid (flat_succ hm)
      obtain ⟨M, hM⟩ : ∃ M, M = m.length := ⟨_, rfl⟩
      rw [← hM] at hcell hml
      have HM := Lib.hid hM
      have HLE := Lib.hid hle
      have HKL := Lib.hid hlt
      have hy : (k : Int) < (n : Int) := by omega
      by_cases hbig : 131072 < S + M
      · have hyb : (131072 : Int) < (S : Int) + (M : Int) := by omega
        have HO : Hid (131072 < ls.flatten.length) := Lib.hid (by have := HS.out; omega)
        clear hm hne hcells hu hsl hmc hlies hle hk hM hlt hbig
        go_wp2_with fail
        go_ret2
        exact ⟨.inr ⟨HO.out, rfl⟩, HB.out⟩
      · have hyb : ¬ (131072 : Int) < (S : Int) + (M : Int) := by omega
        have HSN : Hid (S + M = (ls.take (k + 1)).flatten.length) := Lib.hid (by rw [HF.out, List.length_append, ← HS.out, HM.out])
        have HSB : Hid (S + M ≤ 131072) := Lib.hid (by omega)
        clear hm hne hcells hu hsl hmc hlies hle hk hM hlt hbig
        go_wp2_with fail
        go_roundw
        case rel =>
          have := HKL.out
          have := HSB.out
          exact ⟨k + 1, S + M, by omega, by go_num, by go_num, by omega, HSN, HB⟩
        case measure => have := HKL.out; simp [intOf]; omega
    · have hkn : k = ls.length := by have := HNN.out; omega
      have HSL : Hid (S = ls.flatten.length) := Lib.hid (by have := HS.out; rw [hkn, List.take_length] at this; exact this)
      have hyk : ¬ (k : Int) < (n : Int) := by omega
      obtain ⟨T, hT⟩ : ∃ T, T = 8 + S := ⟨_, rfl⟩
      have hsum : (8 : Int) + (S : Int) = (T : Int) := by omega
      have HTT := Lib.hid hT
      have hTb : T < 1099511627776 := by omega
      have hT8 : 8 ≤ T := by omega
      clear hkn hk hlt HS hn hT
      go_wp2_with (refine wpList_make2 _ rfl _ _ 29 rfl 5 i0 (.int .u8 0) 1 Tryz.underlying29 hi hz0 hz1 hz2 rfl .i64 .i64 8 (T : Int) 8 T rfl rfl rfl rfl hT8 hTb (by decide) ?_; intro w2 hown2 hb2)
      have hbw2 : Below w.heap.size w w2 := below_then HB.out hb2
      have hown2' : w2.ownsRow w.heap.size 5 1 (.slice (some ⟨w1.heap.size, 0, none⟩) 8 T) (zero8 ++ (ls.take 0).flatten).length ((zero8 ++ (ls.take 0).flatten).map byteV) := own_mono hown2 HB.out.size
      have HO2 := Lib.hid hown2'
      have HB2 := Lib.hid hbw2
      generalize w1.heap.size = gA at HO2
      have hS7 : S ≤ 131072 := hS
      clear hown2 hb2 hbw2 hown2' HB hS hsum hTb hT8 hyk
      go_loopw [7, 28] (fun f i wr => ∃ (k : Nat) (xs : List UInt8), k ≤ n ∧ i = .int .i64 k ∧ Hid (xs = zero8 ++ (ls.take k).flatten) ∧ wr.ownsRow w.heap.size 5 1 f xs.length (xs.map byteV) ∧ Below w.heap.size w wr) (fun _ i _ => n - (intOf i).toNat)
      case atStart => exact ⟨0, _, Nat.zero_le _, rfl, Lib.hid rfl, HO2.out, HB2.out⟩
      case round =>
        clear HO2 HB2
        obtain ⟨k, xs, hk, rfl, HX, hown, hb⟩ := hrel
        obtain ⟨w3, hw3⟩ : ∃ w3 : World, w3 = wr := ⟨_, rfl⟩
        subst hw3
        have hn := HN63.out
        by_cases hlt : k < n
        · obtain ⟨m, hm⟩ : ∃ m, ls[k]? = some m := ⟨_, List.getElem?_eq_getElem (by rw [← HNN.out]; exact hlt)⟩
          have hne : ls ≠ [] := by intro e; have := HNN.out; rw [e] at this; simp at this; omega
          obtain ⟨b, o, rfl, hbw, hcells⟩ := HP.out.resolve_left hne
          obtain ⟨u, hu, hsl⟩ := hcells k m hm
          have hcell : w3.cell? ⟨b, o + k, none⟩ = some u := (hb.cell (p := ⟨b, o + k, none⟩) hbw).trans hu
          have hle := flat_le hm
          have hlong : xs.length + m.length < 1099511627776 := by
            have := HLL.out
            rw [HX.out, List.length_append]
            show 8 + _ + _ < _
            omega
          have HF : Hid (zero8 ++ (ls.take (k + 1)).flatten = xs ++ m) := Lib.hid (by rw [flat_succ hm, HX.out, List.append_assoc])
          have HSL := Lib.hid (hsl.keep hb (Nat.le_refl _))
          have hy : (k : Int) < (n : Int) := by omega
          have HKL := Lib.hid hlt
          have HOW := Lib.hid hown
          have HB := Lib.hid hb
          clear hm hne hcells hu hsl hle hk hown hb hbw hlt
          go_wp2_with (at_builtin; refine wpList_append_sl rfl _ _ 29 rfl w.heap.size 5 i0 (.int .u8 0) Tryz.underlying29 hi hz0 hz1 hz2 rfl _ xs.length _ rfl HOW.out _ m rfl w.heap.size HSL.out hlong HB.out.size ?_; intro v2 w2 hown2 hb2)
          go_roundw
          case rel =>
            refine ⟨k + 1, xs ++ m, by have := HKL.out; omega, by have := HKL.out; go_num, Lib.hid HF.out.symm, ?_, HB.out.trans hb2⟩
            rw [List.length_append, List.map_append]
            exact hown2
          case measure => have := HKL.out; simp [intOf]; omega
        · have hkn : k = ls.length := by have := HNN.out; omega
          have hx := HX.out
          rw [hkn, List.take_length] at hx
          subst hx
          have hyk : ¬ (k : Int) < (n : Int) := by omega
          obtain ⟨p, hpf⟩ : ∃ p, p = ls.flatten := ⟨_, rfl⟩
          rw [← hpf] at hown
          have HPF := Lib.hid hpf
          have hSL := HSL.out
          rw [← hpf] at hSL
          have hxl : (zero8 ++ p).length = S + 8 := by rw [List.length_append, hSL]; show 8 + _ = _; omega
          rw [hxl] at hown
          obtain ⟨g, C2, rfl, hgB⟩ := own_some hown (by omega)
          have hcap := own_cap hown
          have hSn : (UInt32.ofNat S).toNat = p.length := by rw [UInt32.toNat_ofNat', Nat.mod_eq_of_lt (by omega), hSL]
          have hiS : iw (UInt32.ofNat S) = (S : Int) := by unfold iw; rw [hSn, hSL]
          have hset := setnum_any w.heap.size g 0 (S + 8) C2 (S + 8) C2 _ (UInt32.ofNat S) w3 hown hgB (by omega) (by omega)
          rw [hiS, hSn, (put_steps p).1] at hset
          have HSET := Lib.hid hset
          have HB := Lib.hid hb
          have HCAP := Lib.hid hcap
          have HSLP := Lib.hid hSL
          have HNIB := Lib.hid (nib_stay HT.out hb)
          have HSB : Hid (ls.flatten.length ≤ 131072) := Lib.hid (by rw [← hpf, ← hSL]; exact hS7)
          clear hkn hk hlt HX hown hb hxl hSn hn hiS hcap hpf hSL HSL hset hgB
          go_wp2_with fail
          refine (HSET.out).mono ?_
          rintro e w4 ⟨rfl, hown4, hb4⟩
          have hpa : PutAt w g (S + 8) C2 p w4.drew := ⟨nib_stay HT.out (below_draws (HB.out.trans hb4) ⟨1, rfl⟩), below_draws (HB.out.trans hb4) ⟨1, rfl⟩, hown4⟩
          have HPA := Lib.hid hpa
          have hC4 : ¬ C2 = 4 := by have := HCAP.out; omega
          have HCS : Hid (∀ W, PutAt w g (S + 8) C2 p W → Calls Tryz.prog 67 #[.slice (some ⟨g, 0, none⟩) (S + 8) C2] W fun e w' => e = .returned (wV (crcS (be4 p.length ++ p))) ∧ PutAt w g (S + 8) C2 p w') := Lib.hid (fun W hW => by
            have hl := hW.2.2.1
            have hcp := own_cap hW.2.2
            have h := checksum_any g 0 (S + 8) C2 (be4 p.length ++ ([0, 0, 0, 0] ++ p)) W (by simpa using hl) (byAt_own hW.2.2) hcp.2.2 (by omega) hcp.2.1 (by omega) hW.1
            rw [(put_steps p).2.2.1, (put_steps p).2.2.2] at h
            exact h.mono fun e w' ⟨he, hb⟩ => ⟨he, hW.nx3 hb⟩)
          have HSN4 : Hid (∀ W, PutAt w g (S + 8) C2 p W → Calls Tryz.prog 66 #[.slice (some ⟨g, 4, none⟩) (S + 4) (C2 - 4), wV (crcS (be4 p.length ++ p))] W fun e w' => e = .returned (.tuple #[]) ∧ w'.ownsRow w.heap.size 5 1 (.slice (some ⟨g, 0, none⟩) (S + 8) C2) (S + 8) ((frameS p).map byteV) ∧ Below w.heap.size w w') := Lib.hid (fun W hW => by
            have h := setnum_any w.heap.size g 4 (S + 4) (C2 - 4) (S + 8) C2 _ (crcS (be4 p.length ++ p)) W hW.2.2 (own_cap hW.2.2).1 (by omega) (by omega)
            rw [(put_steps p).2.1] at h
            exact h.mono fun e w' ⟨he, ho, hb⟩ => ⟨he, ho, hW.2.1.trans hb⟩)
          clear hown4 hb4 hpa HSET hS7
          go_wp2_with fail
          go_region_with (first | (go_at_call 67; refine (HCS.out _ HPA.out).mono ?_; rintro e w5 ⟨rfl, hpa5⟩) | (go_at_call 66; refine (HSN4.out _ hpa5).mono ?_; rintro e w6 ⟨rfl, hown6, hb6⟩))
          all_goals
            have HO6 := Lib.hid hown6
            have HB6 := Lib.hid hb6
            clear hpa5 hown6 hb6
            go_wp2
            go_ret2
            refine ⟨.inl ⟨HSB.out, g, C2, ?_, ?_⟩, HB6.out⟩
            · rw [← HPF.out, ← HSLP.out]
              rfl
            · rw [← HPF.out, ← HSLP.out]
              exact HO6.out

end Go.Proofs.YtageldnhchgplaaGreatDoor
