/-
  FrameTorn: for every list of slices of bytes and every cut, of the row of their frames that is cut off there the whole ones are told, and the rest is torn; the law returns true, and what was there has not turned; the card's statement, its listed table tied to the program's text. Condition: what comes in is of bulk at most 1,048,576.
-/
import Derived.Lib.LaidTab
import Derived.Stop.LaidErr
import Derived.Deep.DeepHandedRow
import Derived.Test.YtblocggiljdamaaDoorCards
import Derived.Test.YtblocggiljdamaaDoorTie
import Derived.Deep.Slices
import Derived.Test.YtblocggiljdamaaDoorProg
import Derived.Test.YtblocggiljdamaaDoorKit
import Derived.Test.YtblocggiljdamaaDoorLaw
import Derived.Test.YtblocggiljdamaaDoorInfo
import Derived.Test.YtblocggiljdamaaDoorRow
import Derived.Test.YtblocggiljdamaaDoorSha
import Derived.Test.YtblocggiljdamaaDoorCod5
import Derived.Test.YtblocggiljdamaaDoorCod7
import Derived.Test.YtblocggiljdamaaDoorCod9
import Derived.Test.YtblocggiljdamaaDoorJoin
import Derived.Test.YtblocggiljdamaaDoorLaw3
import Derived.Test.YtblocggiljdamaaDoorFrm0
import Derived.Test.YtblocggiljdamaaDoorFrm3
import Derived.Test.YtblocggiljdamaaDoorFrm4
import Derived.Test.YtblocggiljdamaaDoorFrm5
import Derived.Test.YtblocggiljdamaaDoorFrm6
import Derived.Test.YtblocggiljdamaaDoorFrm8
import Derived.Test.YtblocggiljdamaaDoorFrm10
import Derived.Test.YtblocggiljdamaaDoorFrm11
import Derived.Test.YtblocggiljdamaaDoorFrm12
import Derived.Test.YtblocggiljdamaaDoorNibs
import Derived.Test.YtblocggiljdamaaDoorFPuts
import Derived.Test.YtblocggiljdamaaDoorFFlips
namespace Go.Proofs.YtblocggiljdamaaDoor
open Go.ChangeShapes Go.WideShapes Go.ChangeAt Go.RowKit Go.Proofs Go.Deep
open Go.ChangeMaps (open_string shut_string)

theorem frames_len (ls : List (List UInt8)) : (framesS ls).length = ls.flatten.length + 8 * ls.length := by
  induction ls with
  | nil => rfl
  | cons p ls ih =>
    have e : framesS (p :: ls) = frameS p ++ framesS ls := by simp [framesS]
    rw [e, List.length_append, frameS_len, ih]
    simp
    omega

theorem frames_snoc {ls : List (List UInt8)} {k : Nat} {m : List UInt8} (h : ls[k]? = some m) : framesS (ls.take (k + 1)) = framesS (ls.take k) ++ frameS m := by
  rw [take_succ_of h]
  simp [framesS]

theorem take_flat_le (ls : List (List UInt8)) (k : Nat) : (ls.take k).flatten.length ≤ ls.flatten.length := by
  have h2 : ls.flatten = (ls.take k).flatten ++ (ls.drop k).flatten := by rw [← List.flatten_append, List.take_append_drop]
  rw [h2, List.length_append]
  omega

theorem endS_le (ls : List (List UInt8)) (k : Nat) : endS ls k ≤ ls.flatten.length + 8 * ls.length := by
  unfold endS
  rw [frames_len]
  have h1 := take_flat_le ls k
  have h2 : (ls.take k).length ≤ ls.length := by rw [List.length_take]; omega
  omega

def endsV (ls : List (List UInt8)) (k : Nat) : List Value := (List.range (k + 1)).map fun j => Value.int .i64 ((endS ls j : Nat) : Int)

theorem endsV_len (ls : List (List UInt8)) (k : Nat) : (endsV ls k).length = k + 1 := by simp [endsV]

theorem endsV_at (ls : List (List UInt8)) {k j : Nat} (h : j ≤ k) : (endsV ls k)[j]? = some (.int .i64 ((endS ls j : Nat) : Int)) := by
  unfold endsV
  rw [List.getElem?_map, List.getElem?_range (by omega)]
  rfl

theorem endsV_snoc (ls : List (List UInt8)) (k : Nat) : endsV ls (k + 1) = endsV ls k ++ [.int .i64 ((endS ls (k + 1) : Nat) : Int)] := by
  unfold endsV
  rw [List.range_succ, List.map_append]
  rfl

/-- ends = append(ends, x): nothing but its own block turned. -/
theorem wpList_append1_own {P : Program} {W w : World} {x : Value} {ops : Array Oper} {rest : List Oper} {o : Oper} {a : Act} {Q : Exit → Act → World → Prop} (hgd : o.guard = none) (s y : Operand) (t : TypeId)
    (ho : o.op = .call { callee := .builtin .append, args := #[s, y], argTypes := #[t, t] })
    (base : Nat) (e : TypeId) (hW : W = w.alloc (.cells #[x] e)) (i : TypeInfo) (z : Value) (bytes : Nat) (ht : P.underlying t = some (.slice e)) (hi : P.info? e = some i) (hz : i.zero = some z)
    (hsize : i.size = 1) (hby : i.bytes = bytes) (hzs : z.cells.size = 1)
    (v : Value) (n : Nat) (xs : List Value) (hs : a.eval s = v) (hown : w.ownsRow base e 1 v n xs)
    (g : Nat) (hx : a.eval y = .slice (some ⟨g, 0, none⟩) 1 1) (hg0 : g = w.heap.size) (h1 : x.oneCell' = true)
    (hn : n < 1099511627776) (hbytes : bytes ≤ 64) (hbase : base ≤ w.heap.size)
    (h : ∀ v' w', w'.ownsRow base e 1 v' (n + 1) (xs ++ [x]) → W.grownBy w' v.ownBlock → wpList P ops Q rest (a.put o.dst v') w') : wpList P ops Q (o :: rest) a W := by
  subst hW hg0
  refine wpList_append_own _ hgd s y t ho base e i z 1 bytes ht hi hz hsize hby hzs (by decide) v n xs hs (hown.alloc _) ⟨w.heap.size, 0, none⟩ 1 1 [x] hx rfl (cell_one_new _ _ _) ?_ ?_ ?_ ?_ ?_
  · intro u hu
    simp at hu
    rw [hu]; exact h1
  · unfold maxLen; omega
  · have : (n + 1) * bytes ≤ 1099511627776 * 64 := Nat.mul_le_mul (by omega) hbytes
    omega
  · simp; omega
  · intro v' w' hown' hg _
    exact h v' w' hown' hg

/-- b[:t] of bytes. -/
theorem slice_head {w : World} {B : Nat} {a : Option Addr} {n c t : Nat} {l : List UInt8} (h : ByteSl w B (.slice a n c) l) (hn : n = l.length) (ht : t ≤ n) :
    ∃ A, ByteSl w B (.slice A t c) (l.take t) ∧ ∀ W, (Instr.slice 23 (.slice a n c) none (some (.int .i64 (t : Int))) none).run Tryd.prog W = .ok (.slice A t c) W := by
  rcases h with ⟨hv, rfl⟩ | ⟨ad, c', hv, hc, hl⟩
  · injection hv with e1 e2 e3
    subst e1 e2 e3
    obtain rfl : t = 0 := by omega
    refine ⟨none, .inl ⟨rfl, rfl⟩, fun W => ?_⟩
    rw [run_slice_h W 23 none 0 0 (by kernel_rfl) .i64 _ (by omega) (by omega), run_size1 (by kernel_rfl)]
    simp [Result.andThen, sliced]
  · injection hv with e1 e2 e3
    subst e1 e3
    have hlt : (l.take t).length = t := by rw [List.length_take]; omega
    refine ⟨some ad, .inr ⟨ad, c, by rw [hlt], by omega, ?_⟩, fun W => ?_⟩
    · rcases hl with rfl | ⟨b, o, ha, hb, hat⟩
      · exact .inl (by simp)
      · exact .inr ⟨b, o, ha, hb, byAt_take hat t⟩
    · rw [run_slice_h W 23 (some ad) n c (by kernel_rfl) .i64 _ (by omega) (by omega), run_size1 (by kernel_rfl)]
      have : ad.add 0 = ad := by cases ad; unfold Addr.add; split <;> simp_all
      simp [Result.andThen, sliced, this]

/-- l[:t] of rows. -/
theorem rows_head {w : World} {A : Option Addr} {n C t : Nat} {ls : List (List UInt8)} (h : PartsB w w.heap.size (.slice A n C) ls) (hn : n = ls.length) (ht : t ≤ n) (htc : t ≤ C) :
    ∃ A', RowsAt w (.slice A' t C) (ls.take t) ∧ ∀ W, (Instr.slice 22 (.slice A n C) none (some (.int .i64 (t : Int))) none).run Tryd.prog W = .ok (.slice A' t C) W := by
  obtain ⟨A2, C2, hv, hr⟩ := PartsB.len h
  injection hv with e1 e2 e3
  subst e1 e3
  have hlt : (ls.take t).length = t := by rw [List.length_take]; omega
  refine ⟨A, ⟨A, C, by rw [hlt], ?_⟩, fun W => ?_⟩
  · rcases hr with rfl | ⟨b, o, ha, hb, hat⟩
    · exact .inl (by simp)
    · refine .inr ⟨b, o, ha, fun j l hj => ?_⟩
      rw [List.getElem?_take] at hj
      split at hj
      · obtain ⟨u, hu, hs⟩ := hat j l hj
        exact ⟨u, hu, byteSl_at hs⟩
      · cases hj
  · rw [run_slice_h W 22 A n C (by kernel_rfl) .i64 _ (by omega) (by omega), run_size1 (by kernel_rfl)]
    have : ∀ ad : Addr, ad.add 0 = ad := fun ad => by cases ad; unfold Addr.add; split <;> simp_all
    have h2 : A.map (fun x => x.add 0) = A := by cases A <;> simp [this]
    simp [Result.andThen, sliced, h2]

theorem Tryd.infoI64 : (Tryd.prog.info? 3).map (fun i => (i.zero, i.size, i.bytes)) = some (some (.int .i64 0), 1, 8) := by kernel_rfl
section
variable {H : Type} {enc : TypeId × Value → H} {P : Program} {W : World} {base : Nat} {held : Bool}

theorem slice_cap {t u : TypeId} {v : Value} {d : DataW H} {ps : List MemPlace} (ht : P.underlying t = some (.slice u)) (hd : DataW.Trod enc P W base (fun _ => true) held t v d ps) : ∀ A n C, v = .slice A n C → n ≤ C := by
  rintro A n C rfl
  obtain ⟨fuel, hf⟩ := hd
  rcases open_slice ht hf with ⟨hcs, hx⟩ | ⟨a, len, cap, m, n, D, Pl, hcs, _, hle, hm, hmm, hx, hi⟩
  · simp [Value.cells] at hcs
    obtain ⟨rfl, rfl, rfl⟩ := hcs
    exact Nat.le_refl _
  · simp [Value.cells] at hcs
    obtain ⟨rfl, rfl, rfl⟩ := hcs
    exact hle
end

set_option maxHeartbeats 1500000 in
theorem frameTorn_any (v : Value) (ls : List (List UInt8)) (w : World) (hp : PartsB w w.heap.size v ls) (hcap : ∀ A n C, v = .slice A n C → n ≤ C) (hl : ls.flatten.length ≤ 1048576) (hn : ls.length ≤ 1048576)
    (cut : Int) (hcut : -9223372036854775808 ≤ cut ∧ cut ≤ 9223372036854775807) (ht : NibAt w) :
    Calls Tryd.prog 6 #[v, .int .i64 cut] w fun e w' => e = .returned (.bool true) ∧ Below w.heap.size w w' := by
  have HP := Lib.hid hp
  have HJ := Lib.hid (joined_any ls v w hp (by omega) (by omega))
  obtain ⟨A, C, rfl, hcells⟩ := PartsB.len hp
  have hcp := hcap _ _ _ rfl
  clear hp hcap
  obtain ⟨n, hnn⟩ : ∃ n, n = ls.length := ⟨_, rfl⟩
  rw [← hnn] at hn HP HJ hcp ⊢
  have HNN := Lib.hid hnn
  obtain ⟨N, hN⟩ : ∃ N, N = ls.flatten.length := ⟨_, rfl⟩
  rw [← hN] at hl HJ
  have HN := Lib.hid hN
  have HT := Lib.hid ht
  have HCUT := Lib.hid hcut
  have HC := Lib.hid hcells
  have HCP := Lib.hid hcp
  clear hnn hN ht hcut hcells hcp
  go_enter Tryd.func6, Tryd.ntmps6
  go_wp2_with fail
  refine (HJ.out).mono ?_
  rintro e w1 ⟨⟨v1, rfl, hown1⟩, hb1⟩
  obtain ⟨a1, c1, rfl⟩ := own_len hown1
  have HB1 := Lib.hid hb1
  clear hown1 hb1 HJ
  by_cases h7 : (4000 : Int) < (N : Int)
  · go_wp2_with fail
    refine (awake3_any _ (nib_stay HT.out HB1.out)).mono ?_
    rintro e w' ⟨rfl, hb2⟩
    have HB2 := Lib.hid (below_then HB1.out hb2)
    clear hb2
    go_wp2
    go_ret
    exact ⟨rfl, HB2.out⟩
  by_cases h5 : (20 : Int) < (n : Int)
  · go_wp2_with fail
    refine (awake3_any _ (nib_stay HT.out HB1.out)).mono ?_
    rintro e w' ⟨rfl, hb2⟩
    have HB2 := Lib.hid (below_then HB1.out hb2)
    clear hb2
    go_wp2
    go_ret
    exact ⟨rfl, HB2.out⟩
  have HSM : Hid (N ≤ 4000 ∧ n ≤ 20) := Lib.hid (by omega)
  have hn20 : (n : Int) ≤ 20 := by omega
  clear hl hn
  obtain ⟨i0, hi, hz0, hz1, hz2⟩ := info_parts Tryd.infoByte
  obtain ⟨i1, hj, hy0, hy1, hy2⟩ := info_parts Tryd.infoI64
  go_wp2_with fail
  have hends0 : (w1.alloc (.cells #[.int .i64 0] 3)).ownsRow w.heap.size 3 1 (.slice (some ⟨w1.heap.size, 0, none⟩) 1 1) 1 (endsV ls 0) := World.ownsRow_lit w1 #[.int .i64 0] 1 HB1.out.size (by decide) rfl
  have hb2 : Below w.heap.size w (w1.alloc (.cells #[.int .i64 0] 3)) := below_more HB1.out _
  generalize w1.alloc (.cells #[.int .i64 0] 3) = w2 at hends0 hb2 ⊢
  generalize w1.heap.size = g1 at hends0 ⊢
  have HE0 := Lib.hid hends0
  have HB2 := Lib.hid hb2
  clear hends0 hb2 HB1 h7 h5
  go_loopw [6, 7, 8] (fun b en i wr => ∃ (k L : Nat), k ≤ n ∧ i = .int .i64 k ∧ L ≤ 4160 ∧ Hid (L = endS ls k) ∧ Hid (wr.ownsRow w.heap.size 5 1 b L ((framesS (ls.take k)).map byteV)) ∧ Hid (wr.ownsRow w.heap.size 3 1 en (k + 1) (endsV ls k)) ∧ Hid (Below w.heap.size w wr)) (fun _ _ i _ => n - (intOf i).toNat)
  case atStart => exact ⟨0, 0, Nat.zero_le _, rfl, by omega, Lib.hid rfl, Lib.hid (World.ownsRow_nil _ _ _ _), HE0, HB2⟩
  case round =>
    clear HE0 HB2
    obtain ⟨k, L, hk, rfl, hL, HL, HO, HE, HB⟩ := hrel
    obtain ⟨w3, hw3⟩ : ∃ w3 : World, w3 = wr := ⟨_, rfl⟩
    subst hw3
    by_cases hlt : k < n
    · obtain ⟨m, hm⟩ : ∃ m, ls[k]? = some m := ⟨_, List.getElem?_eq_getElem (by rw [← HNN.out]; exact hlt)⟩
      have hne : ls ≠ [] := by intro e; have := HNN.out; rw [e] at this; simp at this; omega
      obtain ⟨b, o, rfl, hbw, hcl⟩ := HC.out.resolve_left hne
      obtain ⟨u, hu, hsl⟩ := hcl k m hm
      have hcell : w3.cell? ⟨b, o + k, none⟩ = some u := (HB.out.cell (p := ⟨b, o + k, none⟩) hbw).trans hu
      have hle := flat_le hm
      have hml : m.length ≤ 4000 := by rw [← HN.out] at hle; have := HSM.out.1; omega
      obtain ⟨ua, uc, rfl, _⟩ := byteSl_len hsl
      have hsl3 : ByteSl w3 w3.heap.size (.slice ua m.length uc) m := (hsl.keep HB.out (Nat.le_refl _)).more3 HB.out.size
      have hpb := partsB_one w3 (.slice ua m.length uc) 23 (0, 0) m w3.heap.size hsl3 rfl
      have hb3 : Below w.heap.size w (w3.alloc (.cells #[.slice ua m.length uc] 23)) := below_more HB.out _
      have HPUT := Lib.hid (put_any [m] _ _ hpb (nib_stay HT.out hb3) (by rw [flat_one]; omega) (by simp))
      have HB3 := Lib.hid hb3
      have HSN := Lib.hid (frames_snoc hm)
      have HML := Lib.hid hml
      have HKL := Lib.hid hlt
      have hbal : Below w3.heap.size w3 (w3.alloc (.cells #[.slice ua m.length uc] 23)) := below_more (Below.refl _ _) _
      have HBAL := Lib.hid hbal
      have hy : (k : Int) < (n : Int) := by omega
      clear hm hne hcl hu hsl hle hml hsl3 hpb hb3 hbal hbw hlt hk
      obtain ⟨M, hM⟩ : ∃ M, M = m.length := ⟨_, rfl⟩
      rw [← hM] at hcell HPUT HB3 HBAL
      have HM := Lib.hid hM
      clear hM
      go_wp2_with fail
      refine (HPUT.out).mono ?_
      rintro e w4 ⟨hpv, hb4⟩
      unfold putV at hpv
      rw [flat_one, ← HM.out] at hpv
      rcases hpv with ⟨_, g, C4, rfl, hown4⟩ | ⟨h, _⟩
      case inr => have := HML.out; have := HM.out; omega
      have hb34 : Below w3.heap.size w3 w4 := below_then HBAL.out hb4
      have HO4 := Lib.hid (own_below HO.out hb34)
      have HE4 := Lib.hid (own_below HE.out hb34)
      have HF4 := Lib.hid (own_sl hown4)
      have HB4 := Lib.hid (below_then HB.out hb34)
      obtain ⟨ba, bc, rfl⟩ := own_len HO.out
      obtain ⟨ea, ec, rfl⟩ := own_len HE.out
      have HLB : Hid (L + (frameS m).length < 1099511627776) := Lib.hid (by rw [frameS_len]; have := HML.out; omega)
      have hLN : L + (M + 8) = endS ls (k + 1) := by
        unfold endS
        rw [HSN.out, List.length_append, frameS_len, HL.out, HM.out]
        rfl
      have HLN := Lib.hid hLN
      have HLN4 : Hid (L + (M + 8) ≤ 4160) := Lib.hid (by
        rw [hLN]
        have h1 := endS_le ls (k + 1)
        rw [← HN.out, ← HNN.out] at h1
        have := HSM.out
        omega)
      have hM8 : (frameS m).length = M + 8 := by rw [frameS_len, HM.out]
      have HM8 := Lib.hid hM8
      clear hown4 hb4 hb34 hLN hM8 HPUT HO HE HB HB3 HBAL hcell
      go_wp2_with (first
        | (at_builtin; refine wpList_append_slg rfl (.tmp 45) (.tmp 46) 23 rfl w.heap.size 5 i0 (.int .u8 0) Tryd.underlying23 hi hz0 hz1 hz2 rfl (.slice ba L bc) L _ rfl HO4.out _ (frameS m) rfl _ HF4.out HLB.out HB4.out.size ?_; intro v5 w5 hown5 hg5; have he5 := HE4.out.kept hg5 (own_apart (by decide) HE4.out HO4.out); have hb45 := below_own HO4.out hg5 HB4.out.size; rw [HM8.out] at hown5; obtain ⟨ba5, bc5, rfl⟩ := own_len hown5)
        | (at_builtin; go_loud (refine wpList_append1_own rfl (.tmp 48) (.tmp 51) 40 rfl w.heap.size 3 rfl i1 (.int .i64 0) 8 Tryd.underlying40 hj hy0 hy1 hy2 rfl (.slice ea (k + 1) ec) (k + 1) _ rfl he5 w5.heap.size rfl rfl rfl (by omega) (by decide) (Nat.le_trans HB4.out.size hb45.size) ?_); intro v6 w6 hends6 hg6)
        | fail)
      have hx5 : Below w5.heap.size w5 (w5.alloc (.cells #[.int .i64 ((L : Int) + ((M : Int) + 8))] 3)) := below_more (Below.refl _ _) _
      have ho5 := own_below hown5 hx5
      have hee5 := own_below he5 hx5
      have ho6 := ho5.kept hg6 (own_apart (by decide) ho5 hee5)
      have hb56 := below_own hee5 hg6 (Nat.le_trans HB4.out.size (Nat.le_trans hb45.size hx5.size))
      have HO6 := Lib.hid ho6
      have HE6 := Lib.hid hends6
      have HB6 := Lib.hid ((below_then (HB4.out.trans hb45) hx5).trans hb56)
      clear hown5 hg5 he5 hb45 hends6 hg6 hx5 ho5 hee5 ho6 hb56 HO4 HE4 HF4
      go_roundw
      case rel =>
        have := HKL.out
        have := HLN4.out
        refine ⟨k + 1, L + (M + 8), by omega, by go_num, by omega, HLN, Lib.hid ?_, Lib.hid ?_, HB6⟩
        · rw [HSN.out, List.map_append]
          exact HO6.out
        · have h := HE6.out
          rw [endsV_snoc, ← HLN.out]
          exact h
      case measure => have := HKL.out; simp [intOf]; omega
    · have hkn : k = n := by omega
      subst hkn
      have hown := HO.out
      rw [HNN.out, List.take_length] at hown
      have hL2 : L = endS ls k := HL.out
      have hfl : (framesS ls).length = L := by
        rw [hL2, HNN.out]
        unfold endS
        rw [List.take_length]
      obtain ⟨ba, bc, rfl⟩ := own_len hown
      obtain ⟨ge, ec, rfl, _⟩ := own_some HE.out (by omega)
      have HB0 := Lib.hid hown
      have HFL := Lib.hid hfl
      have HLL := Lib.hid hL2
      have HRD := Lib.hid (round_any cut (L + 1) w3 HCUT.out (by omega))
      have hy : ¬ (k : Int) < (k : Int) := by omega
      clear hown hL2 hfl hk hlt HO HL
      go_wp2_with fail
      refine (HRD.out).mono ?_
      rintro e w4 ⟨⟨r, hr, rfl⟩, rfl⟩
      have HR : Hid (r ≤ L) := Lib.hid (by omega)
      clear HRD hr
      go_wp2_with fail
      go_loopw [11] (fun j wr => ∃ q : Nat, q ≤ k ∧ j = .int .i64 q ∧ Hid (endS ls q ≤ r) ∧ w3 = wr) (fun j _ => k - (intOf j).toNat)
      case atStart => exact ⟨0, Nat.zero_le _, rfl, Lib.hid (Nat.zero_le _), rfl⟩
      case round =>
        obtain ⟨q, hq, rfl, HQ, rfl⟩ := hrel
        by_cases hgo : q < k ∧ endS ls (q + 1) ≤ r
        · obtain ⟨hqk, hE⟩ := hgo
          have hc := HE.out.cellAt (q + 1) (by omega)
          rw [endsV_at ls (by omega)] at hc
          obtain ⟨E, hEE⟩ : ∃ E, E = endS ls (q + 1) := ⟨_, rfl⟩
          rw [← hEE] at hc
          have hEr : (E : Int) ≤ (r : Int) := by rw [← hEE] at hE; omega
          have HNE := Lib.hid hE
          have HKL := Lib.hid hqk
          have hyq : (q : Int) < (k : Int) := by omega
          clear hEE hE hqk hq
          go_wp2_with fail
          go_roundw
          case rel => have := HKL.out; exact ⟨q + 1, by omega, by go_num, HNE, trivial⟩
          case measure => have := HKL.out; simp [intOf]; omega
        · have hstop : q < ls.length → r < endS ls (q + 1) := fun h => by
            rw [← HNN.out] at h
            omega
          have hscan := scan_cut ls r q (fun p hp => by
            have h1 : p.length ≤ ls.flatten.length := by
              obtain ⟨s, t, rfl⟩ := List.append_of_mem hp
              simp; omega
            have := HSM.out.1
            have := HN.out
            omega) (by rw [← HNN.out]; exact hq) HQ.out hstop (by rw [HFL.out]; exact HR.out)
          obtain ⟨E0, hE0⟩ : ∃ E0, E0 = endS ls q := ⟨_, rfl⟩
          have hc0 := HE.out.cellAt q (by omega)
          rw [endsV_at ls hq, ← hE0] at hc0
          rw [← hE0] at hscan
          have hE0r : E0 ≤ r := by rw [hE0]; exact HQ.out
          have hsb := own_sl HB0.out
          obtain ⟨A2, hA2, hs2⟩ := slice_head hsb HFL.out.symm HR.out
          have HSC := Lib.hid (scan_any ((framesS ls).take r) _ w3 hA2 (nib_stay HT.out HB.out) (by rw [List.length_take, HFL.out]; omega))
          obtain ⟨A3, hA3, hs3⟩ := rows_head (partsB_later HP.out HB.out) HNN.out hq (Nat.le_trans hq HCP.out)
          have HROW := Lib.hid hA3
          have HSCN := Lib.hid hscan
          have HQK := Lib.hid hq
          have hyq2 : (q : Int) < (k : Int) + 1 := by omega
          have HE0R := Lib.hid hE0r
          clear hstop hscan hE0 hE0r hsb hA2 hA3 HB0
          by_cases hqk : q < k
          case' pos =>
            have hc1 := HE.out.cellAt (q + 1) (by omega)
            rw [endsV_at ls (by omega)] at hc1
            obtain ⟨E, hEE⟩ : ∃ E, E = endS ls (q + 1) := ⟨_, rfl⟩
            rw [← hEE] at hc1
            have hEr : ¬ (E : Int) ≤ (r : Int) := by rw [hEE]; omega
            have hyq : (q : Int) < (k : Int) := by omega
            clear hEE
          case' neg =>
            have hyq : ¬ (q : Int) < (k : Int) := by omega
          all_goals
            clear hqk hgo hq
            go_wp2_with fail
            refine (HSC.out).mono ?_
            rintro e w5 ⟨⟨v5, rfl, hr5⟩, hb5⟩
            rw [HSCN.out] at hr5 ⊢
            change RowsOf w5 w3.heap.size v5 (ls.take q) at hr5
            have hlq : (ls.take q).length = q := by rw [List.length_take, ← HNN.out]; have := HQK.out; omega
            have hc5 : w5.cell? ⟨ge, q, none⟩ = some (.int .i64 ((E0 : Nat) : Int)) := (hb5.cell (p := ⟨ge, q, none⟩) (block_of_cell hc0)).trans hc0
            have HB5 := Lib.hid (below_then HB.out hb5)
            have hr5' := rowsOf_at hr5
            obtain ⟨ra, rc, hv5, _⟩ := hr5'
            rw [hlq] at hv5
            subst hv5
            have HRS := Lib.hid (rows_same (ls.take q) _ _ w5 (by rw [List.length_take, ← HNN.out]; omega) (fun p hp => by
              have hp2 := List.mem_of_mem_take hp
              have h1 : p.length ≤ ls.flatten.length := by
                obtain ⟨s, t, rfl⟩ := List.append_of_mem hp2
                simp; omega
              have := HSM.out.1
              have := HN.out
              omega) (rowsOf_at hr5) (rowsAt_keep HROW.out hb5))
            clear hr5 hb5 hc0 HSC hlq
            try clear hc1
            by_cases heq : E0 = r
            case' pos =>
              have hq1 : ((E0 : Int) == (r : Int)) = true := by rw [heq]; simp
              rw [if_pos heq]
            case' neg =>
              have hq1 : ((E0 : Int) == (r : Int)) = false := by rw [beq_eq_false_iff_ne]; omega
              rw [if_neg heq]
            all_goals
              clear heq
              go_wp2_with fail
              refine (HRS.out).mono ?_
              rintro e w6 ⟨rfl, hd6⟩
              have hc6 : w6.cell? ⟨ge, q, none⟩ = some (.int .i64 ((E0 : Nat) : Int)) := ((below_draws (Below.refl w5.heap.size w5) hd6).cell (p := ⟨ge, q, none⟩) (block_of_cell hc5)).trans hc5
              have HB6 := Lib.hid (below_draws HB5.out hd6)
              clear hd6 hc5 HRS
              go_wp2_with fail
              refine (awake3_any _ (nib_stay HT.out HB6.out)).mono ?_
              rintro e w7 ⟨rfl, hb7⟩
              have HB7 := Lib.hid (below_then HB6.out hb7)
              clear hb7
              go_wp2
              go_ret
              exact ⟨rfl, HB7.out⟩

theorem frameTorn_own : ownKnob Tryd.prog.godebug = none := by kernel_rfl

theorem frameTorn_contract (H : Type) (enc : TypeId × Value → H) (W : World) (base : Nat) (args : Array Value) (ds gs : List (DataW H)) (before : List MemPlace)
    (hval0 : ∀ (j : Nat) t v, Tryd.f6.params[j]? = some t → args[j]? = some v → Value.okWide Tryd.prog W .any base t v)
    (hW : DataW.Whole enc Tryd.prog Tryd.f6.params.toList Rows.frameTornSpec.vars false W args.toList ds gs before) {vt : List TypeId} (hk : Rows.uptoSmall H (ds ++ gs) = true)
    (hsz0 : (DataW.weightsEach Tryd.prog (Tryd.f6.params.toList ++ vt) (ds ++ gs)).all (· ≤ reachBytes) = true) (hL : laidMetH Tryd.prog Rows.frameTornUptoRow.laid W) :
    Calls Tryd.prog 6 args W fun e W' => ∃ v, e = .returned v ∧ Rows.frameTornSpec.post enc Tryd.prog Tryd.f6 false true false false W args v W' := by
  refine law_contract (by kernel_rfl) (of_decide_eq_true (by kernel_rfl)) (tb := 4) (by kernel_rfl) Tryd.underlying4 rfl (fun ds h => by match ds, h with | [d0, d1], _ => exact ⟨rfl, rfl, rfl⟩) hW hsz0 ?_
  intro p hA0 hlt hszz
  have hval := hval0
  have hA : DataW.TrodAll enc Tryd.prog W 0 (fun _ => true) true Tryd.f6.params.toList args.toList ds p := hA0
  have hsz : (DataW.weightsEach Tryd.prog Tryd.f6.params.toList ds).all (· ≤ reachBytes) = true := hszz
  clear hval0 hA0 hszz hsz0 hW
  rw [Tryd.params6] at hA hval hsz
  obtain ⟨v0, vs0, d0, ds0, p0, q0, hargs, rfl, rfl, h0, r0⟩ := trodAll_cons hA
  obtain ⟨v1, vs1, d1, ds1, p1, q1, rfl, rfl, rfl, h1, r1⟩ := trodAll_cons r0
  obtain ⟨rfl, rfl, rfl⟩ := trodAll_nil r1
  obtain rfl : args = #[v0, v1] := by cases args; simp_all
  have hbk : Rows.uptoBulkAll ([d0, d1] ++ gs) ≤ 1048576 := of_decide_eq_true hk
  simp only [List.cons_append, List.nil_append, Rows.uptoBulkAll] at hbk
  obtain ⟨a0, g0, z0, y0⟩ := open_parts Tryd.underlying22 Tryd.underlying23 Tryd.underlying5 (by kernel_rfl) (by kernel_rfl) (hval 0 22 v0 rfl rfl) h0
  obtain ⟨a1, rfl, rfl, rfl, w1⟩ := open_int Tryd.underlying3 (hval 1 3 v1 rfl rfl) h1
  exact frameTorn_any (w := W) v0 a0 g0 (slice_cap Tryd.underlying22 h0) (by omega) (by omega) a1 (bounds_i64 w1) (nib_of hL)

noncomputable def frameTorn_world (os : Os) : World := laidIn Tryd.prog Rows.frameTornUptoRow.laid (World.holding Tryd.prog os ⟨#[], #[], []⟩)

theorem frameTorn_met (os : Os) : laidMet Tryd.prog Rows.frameTornUptoRow.laid ((frameTorn_world os).forCall (fun _ _ => 0) ⟨#[], #[.slice none 0 0, .int .i64 0], []⟩).memory :=
  laidMet_of_run' 8 (by kernel_rfl) (by kernel_rfl)

theorem frameTorn_reads (os : Os) {H : Type} (enc : TypeId × Value → H) : ∃ places, DataW.whole enc Tryd.prog ((frameTorn_world os).forCall (fun _ _ => 0) ⟨#[], #[.slice none 0 0, .int .i64 0], []⟩).memory Tryd.f6.params.toList Rows.frameTornSpec.vars false (#[.slice none 0 0, .int .i64 0] : Array Value).toList 8 = some ([.nil, .lit (.int .i64 0)], [], places) :=
  ⟨[], by kernel_rfl⟩

set_option maxRecDepth 100000 in
theorem frameTorn_lifted (os : Os) (started : os.Started) (H : Type) (enc : TypeId × Value → H) (F : Stop.Interp) :
    ReturnsInHanded {} Tryd.checked os 6 .any ((Rows.OpenSpec.upto Rows.frameTornSpec).preRow enc Tryd.prog Tryd.f6 Rows.frameTornUptoRow.domain false Rows.frameTornUptoRow.laid) (((Rows.OpenSpec.upto Rows.frameTornSpec).at F).post enc Tryd.prog Tryd.f6 false true false false) := by
  obtain ⟨places, hx⟩ := frameTorn_reads os enc
  refine returnsInHanded_of_row (C := Tryd.checked) (s := Rows.OpenSpec.upto Rows.frameTornSpec) frameTorn_own started (by kernel_rfl) Tryd.func6
    (witness_row_at (enc := enc) (C := Tryd.checked) false (frameTorn_world os) #[.slice none 0 0, .int .i64 0] rfl (by kernel_rfl) (by kernel_rfl) (by kernel_rfl)
      (OpenSpec.preRow_of_cond 8 hx (by kernel_rfl) (fun k hk => by cases hk; kernel_rfl) (by kernel_rfl) (frameTorn_met os))) ?_
  intro W base args ds gs before hval hW _ hcond hsz hL _ _
  exact frameTorn_contract H enc W base args ds gs before hval hW (hcond _ rfl) hsz hL

theorem frameTorn_said : Rows.FrameTornUptoSaid :=
  OpenClaim.holds_of_cond 6 Tryd.f6 rfl rfl rfl rfl rfl rfl rfl ⟨rfl, rfl, rfl, rfl, rfl⟩ rfl rfl rfl rfl rfl (by kernel_rfl) Tryd.func6 (by kernel_rfl)
    (of_decide_eq_true (by kernel_rfl)) (by unfold Func.isWrapper; first | (rw [if_pos (by decide +kernel)]; kernel_rfl) | (rw [if_neg (by decide +kernel)]; exact ⟨rfl, rfl⟩))
    (fun os started H enc _ F => by rw [OpenClaim.pre_eq_preRow]; exact frameTorn_lifted os started H enc F)

theorem frameTorn_plain (f : FuncId) (fn : Func) (hf : Tryd.pinned.checked.prog.funcNamed Tryd.f6.name = some f) (hfn : Tryd.pinned.checked.prog.funcs[f]? = some fn) :
    false = Tryd.pinned.checked.prog.looks [] ∧ ∀ (j : Nat) t, fn.params[j]? = some t → Tryd.pinned.checked.prog.wantsStandIn t = false := by
  obtain rfl : f = 6 := Option.some.inj ((show Tryd.prog.funcNamed Tryd.f6.name = some 6 by kernel_rfl).symm.trans hf) |>.symm
  obtain rfl : fn = Tryd.f6 := (Option.some.inj (Tryd.func6.symm.trans hfn)).symm
  refine ⟨by kernel_rfl, fun j t ht => ?_⟩
  have hall : ∀ t ∈ Tryd.f6.params, Tryd.prog.wantsStandIn t = false := of_decide_eq_true (by kernel_rfl)
  exact hall t (Array.mem_of_getElem? ht)

theorem frameTorn_card : Rows.FrameTornUptoCardSaid :=
  Claim7.holds_tied_plain_at .later [] _ _ _ _ frameTorn_said (fun _ h => by cases h) (by kernel_rfl) (fun _ h => by cases h) frameTornUpto_row_tie rfl ⟨rfl, rfl⟩ (by kernel_rfl) rfl frameTorn_plain (by kernel_rfl)
#print axioms frameTorn_card

end Go.Proofs.YtblocggiljdamaaDoor
