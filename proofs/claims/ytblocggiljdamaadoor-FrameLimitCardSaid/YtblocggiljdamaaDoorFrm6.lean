/- Contracts: the code's Next. -/
import Derived.BigRegion
import Derived.Deep.RegionHeld3
import Derived.Test.YtblocggiljdamaaDoorProg
import Derived.Test.YtblocggiljdamaaDoorShelf
import Derived.Test.YtblocggiljdamaaDoorKit
import Derived.Test.YtblocggiljdamaaDoorRow
import Derived.Test.YtblocggiljdamaaDoorU32
import Derived.Test.YtblocggiljdamaaDoorCod2
import Derived.Test.YtblocggiljdamaaDoorCod5
import Derived.Test.YtblocggiljdamaaDoorCod7
import Derived.Test.YtblocggiljdamaaDoorCod9
import Derived.Test.YtblocggiljdamaaDoorFrm0
import Derived.Test.YtblocggiljdamaaDoorFrm3
import Derived.Test.YtblocggiljdamaaDoorFrm4
namespace Go.Proofs.YtblocggiljdamaaDoor
open Go.RowKit Go.Proofs

theorem clone_any (l : List UInt8) (v : Value) (w : World) (h : ByteSl w w.heap.size v l) (hl : l.length ≤ 140737488355328) :
    Calls Tryd.prog 26 #[v] w fun e w' => ∃ v', e = .returned v' ∧ w'.ownsRow w.heap.size 5 1 v' l.length (l.map byteV) ∧ Below w.heap.size w w' := by
  rcases h with ⟨rfl, rfl⟩ | ⟨ad, c, rfl, hc, hlies⟩
  · refine (Tryd.bytes_Clone_nil 0 0 w).mono ?_
    rintro e w' ⟨rfl, rfl⟩
    exact ⟨_, rfl, ⟨rfl, .inl ⟨rfl, rfl⟩⟩, Below.refl _ _⟩
  · refine (Tryd.bytes_Clone_at ad l.length c (l.map fun x => (x.toNat : Int)) w (by simp) hl (fun i hi => ?_)).mono ?_
    · rcases hlies with rfl | ⟨b, o, ha, _, hat⟩
      · simp at hi
      · cases ha
        rw [Addr.add_mid, hat i l[i] (List.getElem?_eq_getElem hi)]
        simp [List.getElem?_eq_getElem hi]
    · rintro e w' ⟨v', rfl, hown, _, hb⟩
      refine ⟨v', rfl, ?_, hb⟩
      rw [List.map_map] at hown
      exact hown

/-- What a reading answers: payload, length, kind. -/
def nextV (b : List UInt8) (base : Nat) (w' : World) (e : Ending) : Prop :=
  ∃ v, e = .returned (.tuple #[v, .int .i64 (((nextS b).2.1 : Nat) : Int), .int .i64 (((nextS b).2.2 : Nat) : Int)]) ∧ w'.ownsRow base 5 1 v (nextS b).1.length ((nextS b).1.map byteV)

theorem nextV_none {b : List UInt8} {base k : Nat} {w' : World} (h : nextS b = ([], 0, k)) : nextV b base w' (.returned (.tuple #[.slice none 0 0, .int .i64 0, .int .i64 (k : Int)])) := by
  unfold nextV
  rw [h]
  exact ⟨_, rfl, ⟨rfl, .inl ⟨rfl, rfl⟩⟩⟩

theorem byteSl_len {w : World} {B : Nat} {v : Value} {l : List UInt8} (h : ByteSl w B v l) : ∃ a c, v = .slice a l.length c ∧ l.length ≤ c ∧ (l = [] ∨ ∃ b o, a = some ⟨b, o, none⟩ ∧ b < B ∧ ByAt w b o l) := by
  rcases h with ⟨rfl, rfl⟩ | ⟨ad, c, rfl, hc, hl⟩
  · exact ⟨none, 0, rfl, Nat.le_refl _, .inl rfl⟩
  · exact ⟨some ad, c, rfl, hc, hl⟩

theorem next1 {b : List UInt8} (h : b.length < 4) : nextS b = ([], 0, 2) := by unfold nextS; rw [if_pos h]

theorem next2 {b : List UInt8} (h : 4 ≤ b.length) (h2 : 131072 < numS (b.take 4)) : nextS b = ([], 0, 3) := by unfold nextS; rw [if_neg (by omega), if_pos h2]

theorem next3 {b : List UInt8} (h : 4 ≤ b.length) (h2 : ¬ 131072 < numS (b.take 4)) (h3 : b.length < 8 + numS (b.take 4)) : nextS b = ([], 0, 2) := by unfold nextS; rw [if_neg (by omega), if_neg h2, if_pos (by omega)]

theorem next4 {b : List UInt8} (h2 : ¬ 131072 < numS (b.take 4)) (h3 : 8 + numS (b.take 4) ≤ b.length) (h4 : (crcS (b.take 4 ++ (b.drop 8).take (numS (b.take 4)))).toNat ≠ numS ((b.drop 4).take 4)) : nextS b = ([], 0, 3) := by
  unfold nextS; rw [if_neg (by omega), if_neg h2, if_neg (by omega), if_pos h4]

theorem next5 {b : List UInt8} (h2 : ¬ 131072 < numS (b.take 4)) (h3 : 8 + numS (b.take 4) ≤ b.length) (h4 : ¬ (crcS (b.take 4 ++ (b.drop 8).take (numS (b.take 4)))).toNat ≠ numS ((b.drop 4).take 4)) :
    nextS b = ((b.drop 8).take (numS (b.take 4)), 8 + numS (b.take 4), 1) := by
  unfold nextS; rw [if_neg (by omega), if_neg h2, if_neg (by omega), if_neg h4]

theorem next_any (l : List UInt8) (v : Value) (w : World) (h : ByteSl w w.heap.size v l) (ht : NibAt w) (hl : l.length ≤ 140737488355328) :
    Calls Tryd.prog 16 #[v] w fun e w' => nextV l w.heap.size w' e ∧ Below w.heap.size w w' := by
  obtain ⟨a, c, rfl, hc, hlies⟩ := byteSl_len h
  obtain ⟨N, hN⟩ : ∃ N, N = l.length := ⟨_, rfl⟩
  rw [← hN] at hc hl ⊢
  have HN := Lib.hid hN
  have HL := Lib.hid hlies
  have HT := Lib.hid ht
  clear h hlies hN ht
  go_enter Tryd.func16, Tryd.ntmps16
  by_cases h4 : N < 4
  · have hy : (N : Int) < 4 := by omega
    have HV := Lib.hid (next1 (b := l) (by rw [← HN.out]; exact h4))
    go_wp2_with fail
    go_ret3
    exact ⟨nextV_none HV.out, Below.refl _ _⟩
  have hne : l ≠ [] := by intro e; have := HN.out; rw [e] at this; simp at this; omega
  obtain ⟨b, o, rfl, hb, hat⟩ := HL.out.resolve_left hne
  have hy4 : ¬ (N : Int) < 4 := by omega
  have HNUM := Lib.hid (number_any b o N c l w HN.out.symm hat (by omega))
  have hlt4 : numS (l.take 4) < 4294967296 := by
    obtain ⟨x0, x1, x2, x3, ht, _⟩ := four_of (l := l) (by rw [← HN.out]; omega)
    rw [ht]; exact num4_lt rfl
  obtain ⟨S, hS⟩ : ∃ S, S = numS (l.take 4) := ⟨_, rfl⟩
  rw [← hS] at HNUM hlt4
  have HS := Lib.hid hS
  have HAT := Lib.hid hat
  have HBW := Lib.hid hb
  have HC := Lib.hid hc
  clear hat hne hS hb HL
  go_wp2_with fail
  refine (HNUM.out).mono ?_
  rintro e w1 ⟨rfl, hd1⟩
  have HB1 := Lib.hid (below_draws (Below.refl w.heap.size w) hd1)
  clear hd1 HNUM
  by_cases hbig : 131072 < S
  · have hyb : (131072 : Int) < (S : Int) := by omega
    have HV := Lib.hid (next2 (b := l) (by rw [← HN.out]; omega) (by rw [← HS.out]; exact hbig))
    clear hbig hl
    go_wp2_with fail
    go_ret3
    exact ⟨nextV_none HV.out, HB1.out⟩
  have hyb : ¬ (131072 : Int) < (S : Int) := by omega
  obtain ⟨T, hT⟩ : ∃ T, T = 8 + S := ⟨_, rfl⟩
  have hsum : (8 : Int) + (S : Int) = (T : Int) := by omega
  have h4N : 4 ≤ l.length := by rw [← HN.out]; omega
  have HBIG : Hid (¬ 131072 < numS (l.take 4)) := Lib.hid (by rw [← HS.out]; exact hbig)
  by_cases hshort : N < T
  · have hys : (N : Int) < (T : Int) := by omega
    have HV := Lib.hid (next3 (b := l) h4N HBIG.out (by rw [← HS.out, ← HN.out]; omega))
    clear hbig hl hT hshort h4N
    go_wp2_with fail
    go_ret3
    exact ⟨nextV_none HV.out, HB1.out⟩
  have hys : ¬ (N : Int) < (T : Int) := by omega
  have hTc : (T : Int) ≤ (c : Int) := by have := HC.out; omega
  have hTc' : T ≤ c := by omega
  have hc4 : ¬ c = 4 := by omega
  have hT8 : 8 ≤ T := by omega
  have hsT : ∀ W, (Instr.slice 23 (.slice (some ⟨b, o, none⟩) N c) none (some (.int .i64 (T : Int))) none).run Tryd.prog W = .ok (.slice (some ⟨b, o, none⟩) T c) W := fun W => by
    rw [run_slice_h W 23 (some ⟨b, o, none⟩) N c (by kernel_rfl) .i64 T (by omega) (by omega), run_size1 (by kernel_rfl)]
    simp [Result.andThen, sliced, Addr.add_mid]
  have hs4 : ∀ W, (Instr.slice 23 (.slice (some ⟨b, o, none⟩) T c) (some (.int .i64 4)) none none).run Tryd.prog W = .ok (.slice (some ⟨b, o + 4, none⟩) (T - 4) (c - 4)) W := fun W => by
    have h := slice_from (P := Tryd.prog) (t := 23) (by kernel_rfl) (by kernel_rfl) b o T c 4 (by omega) W
    rw [if_neg hc4] at h
    exact h
  have hs8 : ∀ W, (Instr.slice 23 (.slice (some ⟨b, o, none⟩) T c) (some (.int .i64 8)) none none).run Tryd.prog W = .ok (.slice (if c = 8 then some ⟨b, o, none⟩ else some ⟨b, o + 8, none⟩) (T - 8) (c - 8)) W := fun W =>
    slice_from (by kernel_rfl) (by kernel_rfl) b o T c 8 hT8 W
  have hatT : ByAt w b o (l.take T) := byAt_take HAT.out T
  have hlT : (l.take T).length = T := by rw [List.length_take, ← HN.out]; omega
  have hd8 := lies_drop (cap := c) (n := 8) HBW.out hatT (by omega) (by omega)
  obtain ⟨ad, had⟩ : ∃ ad, (if c = 8 then some (⟨b, o, none⟩ : Addr) else some ⟨b, o + 8, none⟩) = some ad := by split <;> exact ⟨_, rfl⟩
  rw [had] at hs8 hd8
  clear had
  have hpay : (l.take T).drop 8 = (l.drop 8).take S := by rw [List.drop_take]; congr 1; omega
  have hhead : (l.take T).take 4 = l.take 4 := by rw [List.take_take, Nat.min_eq_left (by omega)]
  have hsumb : ((l.take T).drop 4).take 4 = (l.drop 4).take 4 := by rw [List.drop_take, List.take_take, Nat.min_eq_left (by omega)]
  have hat4 : ByAt w b (o + 4) ((l.take T).drop 4) := fun j x hj => by
    rw [List.getElem?_drop] at hj
    rw [Nat.add_assoc]
    exact hatT (4 + j) x hj
  have hnum := number_any b (o + 4) (T - 4) (c - 4) ((l.take T).drop 4) w1 (by rw [List.length_drop, hlT]) (hat4.keep HB1.out HBW.out) (by omega)
  rw [hsumb] at hnum
  have hcks := fun (w2 : World) (hb2 : Below w.heap.size w w2) => checksum_any b o T c (l.take T) w2 hlT (hatT.keep hb2 HBW.out) (Nat.lt_of_lt_of_le HBW.out hb2.size) hT8 hTc' (by omega) (nib_stay HT.out hb2)
  rw [hhead, hpay] at hcks
  have hcl := fun (w2 : World) (hb2 : Below w.heap.size w w2) => clone_any ((l.drop 8).take S) (.slice (some ad) (T - 8) (c - 8)) w2 (by
    rw [hpay] at hd8
    have hsl : ((l.drop 8).take S).length = T - 8 := by rw [List.length_take, List.length_drop, ← HN.out]; omega
    refine .inr ⟨ad, c - 8, by rw [hsl], by omega, ?_⟩
    exact (hd8.keep hb2 (Nat.le_refl _)).more hb2.size) (by rw [List.length_take]; omega)
  have hpl : ((l.drop 8).take S).length = S := by rw [List.length_take, List.length_drop, ← HN.out]; omega
  rw [hpl] at hcl
  have HPL := Lib.hid hpl
  obtain ⟨Q, hQ⟩ : ∃ Q, Q = numS ((l.drop 4).take 4) := ⟨_, rfl⟩
  rw [← hQ] at hnum
  obtain ⟨R, hR⟩ : ∃ R, R = crcS (l.take 4 ++ (l.drop 8).take S) := ⟨_, rfl⟩
  rw [← hR] at hcks
  have HNUM := Lib.hid hnum
  have HCKS := Lib.hid hcks
  have HCL := Lib.hid hcl
  have HQ := Lib.hid hQ
  have HR := Lib.hid hR
  have HTT := Lib.hid hT
  have HTN : Hid (8 + numS (l.take 4) ≤ l.length) := Lib.hid (by rw [← HS.out, ← HN.out]; omega)
  clear hnum hcks hcl hQ hR hT hd8 hatT hlT hpay hhead hsumb hat4 hpl hbig hshort h4N hTc' hl
  by_cases hsame : Q = R.toNat
  · have hq : ((Q : Int) != iw R) = false := by unfold iw; rw [hsame]; simp
    have HV := Lib.hid (next5 (b := l) HBIG.out HTN.out (by rw [← HS.out, ← HR.out, ← HQ.out, hsame]; simp))
    clear hsame
    go_wp2_with fail
    refine (HNUM.out).mono ?_
    rintro e w2 ⟨rfl, hd2⟩
    have HB2 := Lib.hid (below_draws HB1.out hd2)
    clear hd2
    go_wp2_with fail
    refine (HCKS.out w2 HB2.out).mono ?_
    rintro e w3 ⟨rfl, hb3⟩
    have HB3 := Lib.hid (below_then HB2.out hb3)
    clear hb3
    unfold wV
    go_wp2_with fail
    refine (HCL.out w3 HB3.out).mono ?_
    rintro e w4 ⟨v4, rfl, hown4, hb4⟩
    have HO4 := Lib.hid (own_mono hown4 HB3.out.size)
    have HB4 := Lib.hid (below_then HB3.out hb4)
    clear hown4 hb4
    go_wp2_with fail
    go_ret3
    refine ⟨?_, HB4.out⟩
    unfold nextV
    rw [HV.out, ← HS.out, ← HTT.out]
    refine ⟨v4, rfl, ?_⟩
    show w4.ownsRow w.heap.size 5 1 v4 ((l.drop 8).take S).length (((l.drop 8).take S).map byteV)
    rw [HPL.out]
    exact HO4.out
  · have hq : ((Q : Int) != iw R) = true := by
      unfold iw
      rw [bne_iff_ne]
      omega
    have HV := Lib.hid (next4 (b := l) HBIG.out HTN.out (by rw [← HS.out, ← HR.out, ← HQ.out]; omega))
    clear hsame
    go_wp2_with fail
    refine (HNUM.out).mono ?_
    rintro e w2 ⟨rfl, hd2⟩
    have HB2 := Lib.hid (below_draws HB1.out hd2)
    clear hd2
    go_wp2_with fail
    refine (HCKS.out w2 HB2.out).mono ?_
    rintro e w3 ⟨rfl, hb3⟩
    have HB3 := Lib.hid (below_then HB2.out hb3)
    clear hb3
    unfold wV
    go_wp2_with fail
    go_ret3
    exact ⟨nextV_none HV.out, HB3.out⟩

end Go.Proofs.YtblocggiljdamaaDoor
