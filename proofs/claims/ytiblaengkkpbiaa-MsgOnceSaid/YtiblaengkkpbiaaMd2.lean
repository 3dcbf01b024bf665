/- Contracts: msg: the reader: a number, a yes, a text. -/
import Derived.BigRegion
import Derived.Deep.RegionHeld3
import Derived.IntWalk
import Derived.Test.YtiblaengkkpbiaaProg
import Derived.Test.YtiblaengkkpbiaaKit
import Derived.Test.YtiblaengkkpbiaaCod7
import Derived.Test.YtiblaengkkpbiaaFrm0
import Derived.Test.YtiblaengkkpbiaaFrm7
import Derived.Test.YtiblaengkkpbiaaMg0
import Derived.Test.YtiblaengkkpbiaaMd1
namespace Go.Proofs.Ytiblaengkkpbiaa
open Go.RowKit Go.Proofs

theorem or64w {a : Nat} {x : UInt8} (ha : a < 72057594037927936) : bits .or .u64 ((a : Int) * 256) (x.toNat : Int) = ((a * 256 + x.toNat : Nat) : Int) := by
  have hx := x.toNat_lt
  have h1 : (BitVec.ofInt 64 ((a : Int) * 256)) = BitVec.ofNat 64 (a * 256) := by
    rw [show ((a : Int) * 256) = ((a * 256 : Nat) : Int) by omega, BitVec.ofInt_natCast]
  have h2 : (BitVec.ofInt 64 (x.toNat : Int)) = BitVec.ofNat 64 x.toNat := by rw [BitVec.ofInt_natCast]
  show IntKind.u64.wrap _ = _
  simp only [IntKind.bits]
  rw [h1, h2]
  have h3 : (BitVec.ofNat 64 (a * 256) ||| BitVec.ofNat 64 x.toNat).toNat = a * 256 + x.toNat := by
    rw [BitVec.toNat_or, BitVec.toNat_ofNat, BitVec.toNat_ofNat, Nat.mod_eq_of_lt (by omega), Nat.mod_eq_of_lt (by omega), Nat.mul_comm a 256]
    exact (Nat.two_pow_add_eq_or_of_lt (i := 8) hx a).symm
  have key : IntKind.u64.wrap (((BitVec.ofNat 64 (a * 256) ||| BitVec.ofNat 64 x.toNat).toNat : Nat) : Int) = ((a * 256 + x.toNat : Nat) : Int) := by
    rw [h3, IntKind.wrap_u64]
    omega
  exact key

theorem takeR_len (n : Nat) (s : List UInt8 × Bool) : (takeR n s).1.length ≤ n := by
  unfold takeR
  split
  · simp
  · rw [List.length_take]; omega

theorem bySl_cell {w : World} {B : Nat} {A : Option Addr} {n c : Nat} {l : List UInt8} (h : BySl w B (.slice A n c) l) {i : Nat} {x : UInt8} (hx : l[i]? = some x) : ∃ b o, A = some ⟨b, o, none⟩ ∧ b < B ∧ w.cell? ⟨b, o + i, none⟩ = some (.int .u8 (x.toNat : Int)) := by
  obtain ⟨a2, c2, hv, _, hl⟩ := h
  injection hv with e1 _ _
  rcases hl with rfl | ⟨b, o, ha, hb, hby⟩
  · simp at hx
  · exact ⟨b, o, by rw [e1, ha], hb, hby i x hx⟩

def NumV (w w' : World) (B g : Nat) (e : Ending) (q : Int × List UInt8 × Bool) : Prop := e = .returned (.int .i64 q.1) ∧ RdV w w' B g q.2

theorem i64_nat (X : Nat) (h : X < 9223372036854775808) : IntKind.i64.wrap (X : Int) = (X : Int) := IntWalk.i64_in _ (by omega)

set_option maxRecDepth 100000 in
set_option maxHeartbeats 2000000 in
theorem rnumber_any {w : World} {B g : Nat} {s : List UInt8 × Bool} (h : RdAt w B g s) (sz : Nat) (hsz : sz ≤ 8) :
    Calls Try.prog 42 #[.pointer (some ⟨g, 0, none⟩), .int .i64 sz] w fun e w' => NumV w w' B g e (numR sz s) := by
  have HTK := Lib.hid (rtake_any h sz)
  obtain ⟨q, hq⟩ : ∃ q, q = takeR sz s := ⟨_, rfl⟩
  have hql : q.1.length ≤ 8 := by rw [hq]; exact Nat.le_trans (takeR_len sz s) hsz
  rw [← hq] at HTK
  have HQ : Hid (numR sz s = if 9223372036854775808 ≤ numS q.1 then (0, [], true) else (((numS q.1 : Nat) : Int), q.2)) := Lib.hid (by rw [hq]; rfl)
  have HQL := Lib.hid hql
  obtain ⟨l, s2⟩ := q
  dsimp only at HQ HQL HTK
  clear h hq hql
  go_enter Try.func42, Try.ntmps42
  go_wp2_with fail
  refine (HTK.out).mono ?_
  rintro e w1 ⟨v1, rfl, hb1, hv1⟩
  obtain ⟨A, C, rfl, _⟩ := id hb1
  dsimp only at hb1 hv1
  obtain ⟨n, hn⟩ : ∃ n, n = l.length := ⟨_, rfl⟩
  rw [← hn] at hb1 ⊢
  have HB1 := Lib.hid hb1
  have HV1 := Lib.hid hv1
  have HN := Lib.hid hn
  clear hb1 hv1 hn HTK
  go_wp2_with fail
  go_loopw [5, 12] (fun v i wr => ∃ k a : Nat, k ≤ n ∧ i = .int .i64 k ∧ v = .int .u64 a ∧ Hid (a = numS (l.take k)) ∧ w1 = wr) (fun _ i _ => n - (intOf i).toNat)
  case atStart => exact ⟨0, 0, Nat.zero_le _, rfl, rfl, Lib.hid rfl, rfl⟩
  case round =>
    obtain ⟨k, a, hk, rfl, rfl, HA, rfl⟩ := hrel
    have hlen : l.length ≤ 8 := HQL.out
    by_cases hlt : k < n
    · obtain ⟨x, hx⟩ : ∃ x, l[k]? = some x := ⟨_, List.getElem?_eq_getElem (by rw [← HN.out]; exact hlt)⟩
      obtain ⟨b, o, rfl, _, hcx⟩ := bySl_cell HB1.out hx
      have hak : a < 72057594037927936 := by
        rw [HA.out]
        have h1 := numS_lt (l.take k)
        have h2 : (l.take k).length = k := by rw [List.length_take]; have := HN.out; omega
        rw [h2] at h1
        have h3 : k ≤ 7 := by have := HN.out; omega
        exact Nat.lt_of_lt_of_le h1 (Nat.le_trans (Nat.pow_le_pow_right (by decide) h3) (by decide))
      have hor := or64w (a := a) (x := x) hak
      have hmod : (a : Int) * 256 % 18446744073709551616 = (a : Int) * 256 := by omega
      have hwx : IntKind.u64.wrap (x.toNat : Int) = (x.toNat : Int) := by rw [IntKind.wrap_u64]; have := x.toNat_lt; omega
      have HX : Hid (a * 256 + x.toNat = numS (l.take (k + 1))) := Lib.hid (by rw [take_succ_of hx, numS_snoc, HA.out])
      have hy : (k : Int) < (n : Int) := by omega
      have hy8 : (k : Int) < 8 := by have := HN.out; omega
      have HKL := Lib.hid hlt
      clear hx hlt hk hak hlen
      go_wp2_with fail
      go_roundw
      case rel =>
        have := HKL.out
        exact ⟨k + 1, a * 256 + x.toNat, by omega, by go_num, rfl, HX, trivial⟩
      case measure => have := HKL.out; simp [intOf]; omega
    · have HE : Hid (a = numS l) := Lib.hid (by have h := HA.out; rwa [List.take_of_length_le (by rw [← HN.out]; omega)] at h)
      have hyk : ¬ (k : Int) < (n : Int) := by omega
      clear hk hlt hlen HA
      by_cases hbig : 9223372036854775808 ≤ a
      · have HR : Hid (numR sz s = (0, [], true)) := Lib.hid (by rw [HQ.out, if_pos (by rw [← HE.out]; exact hbig)])
        have hq1 : decide ((9223372036854775807 : Int) < (a : Int)) = true := decide_eq_true (by omega)
        have HST := Lib.hid (rstop_any HV1.out.1)
        clear hbig
        go_wp2_with fail
        refine (HST.out).mono ?_
        rintro e w3 ⟨rfl, hv3⟩
        have HV3 := Lib.hid (rdV_then HV1.out hv3)
        clear hv3
        go_wp2_with fail
        go_ret
        refine ⟨?_, ?_⟩
        · rw [HR.out]; rfl
        · rw [HR.out]; exact HV3.out
      · have HR : Hid (numR sz s = ((a : Int), s2)) := Lib.hid (by rw [HQ.out, if_neg (by rw [← HE.out]; exact hbig), ← HE.out])
        have hq1 : decide ((9223372036854775807 : Int) < (a : Int)) = false := decide_eq_false (by omega)
        have hwa := i64_nat a (by omega)
        clear hbig
        go_wp2_with fail
        go_ret
        refine ⟨?_, ?_⟩
        · rw [HR.out]; rfl
        · rw [HR.out]; exact HV1.out

def YesV (w w' : World) (B g : Nat) (e : Ending) (q : Bool × List UInt8 × Bool) : Prop := e = .returned (.bool q.1) ∧ RdV w w' B g q.2

theorem ryes_any {w : World} {B g : Nat} {s : List UInt8 × Bool} (h : RdAt w B g s) :
    Calls Try.prog 44 #[.pointer (some ⟨g, 0, none⟩)] w fun e w' => YesV w w' B g e (yesR s) := by
  have HNM := Lib.hid (rnumber_any h 1 (by decide))
  have HY : Hid (yesR s = if 1 < (numR 1 s).1 then (false, [], true) else ((numR 1 s).1 == 1, (numR 1 s).2)) := Lib.hid rfl
  obtain ⟨q, hq⟩ : ∃ q, q = numR 1 s := ⟨_, rfl⟩
  obtain ⟨y, hy⟩ : ∃ y, y = yesR s := ⟨_, rfl⟩
  rw [← hq] at HNM HY
  rw [← hy] at HY ⊢
  obtain ⟨x, s2⟩ := q
  dsimp only at HY
  clear h hq hy
  go_enter Try.func44, Try.ntmps44
  go_wp2_with fail
  refine (HNM.out).mono ?_
  rintro e w1 ⟨rfl, hv1⟩
  dsimp only at hv1 ⊢
  have HV1 := Lib.hid hv1
  have HST := Lib.hid (rstop_any hv1.1)
  clear hv1 HNM
  by_cases hx : 1 < x
  · have HR : Hid (y = (false, [], true)) := Lib.hid (by rw [HY.out, if_pos hx])
    go_wp2_with fail
    refine (HST.out).mono ?_
    rintro e w3 ⟨rfl, hv3⟩
    have HV3 := Lib.hid (rdV_then HV1.out hv3)
    clear hv3
    go_wp2_with fail
    go_ret
    exact ⟨by rw [HR.out]; rfl, by rw [HR.out]; exact HV3.out⟩
  · have HR : Hid (y = (x == 1, s2)) := Lib.hid (by rw [HY.out, if_neg hx])
    go_wp2_with fail
    go_ret
    exact ⟨by rw [HR.out]; rfl, by rw [HR.out]; exact HV1.out⟩

theorem run_convert_bysl {P : Program} {w : World} (src e dst : TypeId) (hs : P.underlying src = some (.slice e)) (he : P.underlying e = some (.int .u8)) (hd : P.underlying dst = some .string) {B : Nat} {v : Value} {l : List UInt8} (h : BySl w B v l) : (convert src dst v).run P w = .ok (.string ⟨l.toArray⟩) w := by
  obtain ⟨a, c, rfl, _, hl⟩ := h
  rcases hl with rfl | ⟨b, o, rfl, _, hby⟩
  · show (convert src dst (.slice a 0 c)).run P w = _
    rw [run_convert_bytes_string w src dst e a 0 c hs he hd]
    cases a with
    | none => simp [Conv.bytesToString]; rfl
    | some ad => simp [Conv.bytesToString, loadCells]; rfl
  · rw [run_convert_bytes_arg w src e hs he b o l.length c (l.map fun c => (c.toNat : Int)) (by simp) (fun i hi => ?_) dst hd]
    · congr 2
      unfold strOfNums
      congr 2
      rw [List.map_map]
      conv => rhs; rw [← List.map_id l]
      apply List.map_congr_left
      intro c _
      simp
    · rw [hby i l[i] (List.getElem?_eq_getElem hi)]
      simp [List.getElem?_map, List.getD, List.getElem?_eq_getElem hi]

def TxtV (w w' : World) (B g : Nat) (e : Ending) (q : List UInt8 × List UInt8 × Bool) : Prop := e = .returned (.string ⟨q.1.toArray⟩) ∧ RdV w w' B g q.2

theorem numR_pos (n : Nat) (s : List UInt8 × Bool) : 0 ≤ (numR n s).1 := by
  unfold numR
  split
  · decide
  · dsimp only; omega

theorem rtext_any2 {w : World} {B g : Nat} {s : List UInt8 × Bool} (h : RdAt w B g s) :
    Calls Try.prog 54 #[.pointer (some ⟨g, 0, none⟩)] w fun e w' => TxtV w w' B g e (txtR s) := by
  have HNM := Lib.hid (rnumber_any h 4 (by decide))
  have hpos := numR_pos 4 s
  have HY : Hid (txtR s = takeR (numR 4 s).1.toNat (numR 4 s).2) := Lib.hid rfl
  obtain ⟨q, hq⟩ : ∃ q, q = numR 4 s := ⟨_, rfl⟩
  obtain ⟨y, hy⟩ : ∃ y, y = txtR s := ⟨_, rfl⟩
  rw [← hq] at HNM HY hpos
  rw [← hy] at HY ⊢
  obtain ⟨x, s2⟩ := q
  dsimp only at HY hpos
  obtain ⟨N, rfl⟩ := Int.eq_ofNat_of_zero_le hpos
  rw [Int.toNat_natCast] at HY
  clear h hq hy hpos
  go_enter Try.func54, Try.ntmps54
  go_wp2_with fail
  refine (HNM.out).mono ?_
  rintro e w1 ⟨rfl, hv1⟩
  dsimp only at hv1 ⊢
  have HV1 := Lib.hid hv1
  have HTK := Lib.hid (rtake_any hv1.1 N)
  rw [← HY.out] at HTK
  clear hv1 HNM
  go_wp2_with fail
  refine (HTK.out).mono ?_
  rintro e w2 ⟨v2, rfl, hb2, hv2⟩
  have hcv := run_convert_bysl 30 5 9 Try.underlying30 Try.underlying5 Try.underlying9 hb2
  have HV2 := Lib.hid (rdV_then HV1.out hv2)
  clear hb2 hv2 HTK
  go_wp2_with fail
  go_ret
  exact ⟨rfl, HV2.out⟩

end Go.Proofs.Ytiblaengkkpbiaa
