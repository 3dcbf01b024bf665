/- Contracts: the values of some names, the code's and the reference's; few and short fields, few and short texts. -/
import Derived.Test.YtfgpcajjnpmoeaaShelf
import Derived.BigQuiet
import Derived.Test.YtfgpcajjnpmoeaaProg
import Derived.Test.YtfgpcajjnpmoeaaKit
import Derived.Test.YtfgpcajjnpmoeaaInfo
import Derived.Test.YtfgpcajjnpmoeaaAsc4
import Derived.Test.YtfgpcajjnpmoeaaRow
import Derived.Test.YtfgpcajjnpmoeaaCod8
import Derived.Test.YtfgpcajjnpmoeaaJoin
import Derived.Test.YtfgpcajjnpmoeaaUrl9
import Derived.Test.YtfgpcajjnpmoeaaHdr0
import Derived.Test.YtfgpcajjnpmoeaaHdr8
namespace Go.Proofs.Ytfgpcajjnpmoeaa
open Go.RowKit Go.Proofs

theorem vals_snoc {ls : List FldM} {k : Nat} {f : FldM} (zs : List (List UInt8)) (h : ls[k]? = some f) : valsL (ls.take (k + 1)) zs = valsL (ls.take k) zs ++ (if sameIn (fnm f) zs = true then [fvl f] else []) := by
  unfold valsL
  rw [take_succ_of h, List.filter_append, List.map_append]
  congr 1
  by_cases hq : sameIn (fnm f) zs = true
  · rw [if_pos hq]
    simp [hq]
  · rw [if_neg hq]
    simp [hq]

theorem vals_len (ls : List FldM) (zs : List (List UInt8)) (k : Nat) : (valsL (ls.take k) zs).length ≤ k := by
  unfold valsL
  rw [List.length_map]
  have h1 := List.length_filter_le (fun f => sameIn (fnm f) zs) (ls.take k)
  rw [List.length_take] at h1
  omega

def ValsV (w w' : World) (ls : List FldM) (zs : List ByteArray) (e : Ending) : Prop :=
  (∃ v, e = .returned v ∧ w'.ownsRow w.heap.size 9 1 v (valsL ls (tx zs)).length ((valsL ls (tx zs)).map strL)) ∧ Below w.heap.size w w'

theorem values_any (ls : List FldM) (v : Value) (zs : List ByteArray) (u : Value) (w : World) (hv : FldsAt w v ls) (hl : ls.length ≤ 6000) (hf : ∀ f ∈ ls, f.hn.size ≤ 1073741824 ∧ f.hv.size ≤ 1073741824) (hu : SliceAt w u (zs.map strV)) (hlz : zs.length ≤ 1073741824) (hz : ∀ z ∈ zs, z.size ≤ 1073741824) :
    Calls Try.prog 13 #[v, u] w fun e w' => ValsV w w' ls zs e := by
  obtain ⟨i0, hi, hz0, hz1, hz2⟩ := info_parts Try.infoStr
  have HS : Hid (∀ f W, f ∈ ls → Below w.heap.size w W → Calls Try.prog 29 #[.string f.hn, u] W fun e w' => e = .returned (.bool (sameIn (fnm f) (tx zs))) ∧ Below W.heap.size W w') := Lib.hid (fun f W hm hb => sameAsOne_any f.hn (hf f hm).1 zs u W (SliceAt.below hu hb) hlz hz)
  obtain ⟨ua, uc, hu2⟩ := hu.len
  rw [List.length_map] at hu2
  obtain ⟨va, vc, hv2⟩ := flds_len hv
  subst hu2 hv2
  have HV := Lib.hid hv
  obtain ⟨n, hn⟩ : ∃ n, n = ls.length := ⟨_, rfl⟩
  have HNN := Lib.hid hn
  rw [← hn] at hl ⊢
  have HNB : Hid (n ≤ 6000) := Lib.hid hl
  clear hv hu hf hlz hz hn hl
  go_enter Try.func13, Try.ntmps13
  go_wp2_with fail
  go_loopw [5, 10] (fun r i wr => ∃ k : Nat, k ≤ n ∧ i = .int .i64 k ∧ Hid (wr.ownsRow w.heap.size 9 1 r (valsL (ls.take k) (tx zs)).length ((valsL (ls.take k) (tx zs)).map strL)) ∧ Hid (Below w.heap.size w wr)) (fun _ i _ => n - (intOf i).toNat)
  case atStart => exact ⟨0, Nat.zero_le _, rfl, Lib.hid (World.ownsRow_nil _ _ _ _), Lib.hid (Below.refl _ _)⟩
  case round =>
    obtain ⟨k, hk, rfl, HO, HB⟩ := hrel
    obtain ⟨w1, hw1⟩ : ∃ w1 : World, w1 = wr := ⟨_, rfl⟩
    subst hw1
    by_cases hlt : k < n
    · obtain ⟨f, hfk⟩ : ∃ f, ls[k]? = some f := ⟨_, List.getElem?_eq_getElem (by rw [← HNN.out]; exact hlt)⟩
      have hv1 := flds_below HV.out HB.out
      obtain ⟨b, o, c, hvv, c0, c1⟩ := flds_at hv1 hfk
      injection hvv with e1 e2 e3
      subst e1 e3
      clear e2
      have hki : (k : Int) < (n : Int) := by omega
      have hk6 : (k : Int) < 6000 := by have := HNB.out; omega
      obtain ⟨q, hq⟩ : ∃ q, q = sameIn (fnm f) (tx zs) := ⟨_, rfl⟩
      have HX := Lib.hid (vals_snoc (tx zs) hfk)
      have HQ := Lib.hid hq
      have hcall := fun W hb => HS.out f W (List.mem_of_getElem? hfk) hb
      rw [← hq] at hcall
      have HCL := Lib.hid hcall
      have HB1 : Hid (Below w.heap.size w (w1.alloc (.cells #[.string f.hn, .string f.hv] 34))) := Lib.hid (below_more HB.out _)
      have d1 := alloc_cell w1 #[.string f.hn, .string f.hv] 34 (0, 0) 1
      have HO1 := Lib.hid (own_below HO.out (below_more (Below.refl _ _) (.cells #[.string f.hn, .string f.hv] 34)))
      have HL := vals_len ls (tx zs) k
      have hcnt : (valsL (ls.take k) (tx zs)).length ≤ 6000 := by have := HNB.out; omega
      clear hq hfk hv1 hcall HL
      go_wp2_with fail
      refine (HCL.out _ HB1.out).mono ?_
      rintro e w2 ⟨rfl, hb2⟩
      have d2 : w2.cell? ⟨w1.heap.size, 1, none⟩ = some (.string f.hv) := cell_stays d1 hb2
      have hown2 := own_below HO1.out hb2
      have HB2 := Lib.hid (below_then HB1.out hb2)
      have hsz := HB2.out.size
      clear hb2 d1 c0 c1
      cases q with
      | true =>
        have HE : Hid (valsL (ls.take (k + 1)) (tx zs) = valsL (ls.take k) (tx zs) ++ [fvl f]) := Lib.hid (by rw [HX.out, ← HQ.out, if_pos rfl])
        go_wp2_with (at_builtin; refine wpList_append1 rfl _ _ 23 rfl w.heap.size 9 rfl i0 (.string ByteArray.empty) 16 Try.underlying23 hi hz0 hz1 hz2 rfl _ _ _ rfl hown2 rfl rfl (by omega) (by omega) hsz ?_; intro v' w' hown' hb')
        go_roundw
        case rel =>
          refine ⟨k + 1, by omega, by go_num, Lib.hid ?_, Lib.hid (HB2.out.trans hb')⟩
          rw [HE.out, List.length_append, List.map_append]
          show w'.ownsRow _ _ _ _ _ (_ ++ [strL (fvl f)])
          rw [show strL (fvl f) = .string f.hv from strL_data f.hv]
          exact hown'
        case measure => simp [intOf]; omega
      | false =>
        have HE : Hid (valsL (ls.take (k + 1)) (tx zs) = valsL (ls.take k) (tx zs)) := Lib.hid (by rw [HX.out, ← HQ.out, if_neg (by decide), List.append_nil])
        have HO2 := Lib.hid hown2
        clear hown2
        go_wp2_with fail
        go_roundw
        case rel => exact ⟨k + 1, by omega, by go_num, Lib.hid (by rw [HE.out]; exact HO2.out), HB2⟩
        case measure => simp [intOf]; omega
    · have HT : Hid (ls.take k = ls) := Lib.hid (List.take_of_length_le (by have := HNN.out; omega))
      go_wp2_with fail
      go_ret
      refine ⟨⟨_, rfl, ?_⟩, HB.out⟩
      have h := HO.out
      rw [HT.out] at h
      exact h

theorem rvalues_any (ls : List FldM) (v : Value) (zs : List ByteArray) (u : Value) (w : World) (hv : FldsAt w v ls) (hl : ls.length ≤ 6000) (hf : ∀ f ∈ ls, f.hn.size ≤ 1073741824 ∧ f.hv.size ≤ 1073741824) (hu : SliceAt w u (zs.map strV)) (hlz : zs.length ≤ 1073741824) (hz : ∀ z ∈ zs, z.size ≤ 1073741824) :
    Calls Try.prog 14 #[v, u] w fun e w' => ValsV w w' ls zs e := by
  obtain ⟨i0, hi, hz0, hz1, hz2⟩ := info_parts Try.infoStr
  have HS : Hid (∀ f W, f ∈ ls → Below w.heap.size w W → Calls Try.prog 30 #[.string f.hn, u] W fun e w' => e = .returned (.bool (sameIn (fnm f) (tx zs))) ∧ Below W.heap.size W w') := Lib.hid (fun f W hm hb => samein_any f.hn (hf f hm).1 zs u W (SliceAt.below hu hb) hlz hz)
  obtain ⟨ua, uc, hu2⟩ := hu.len
  rw [List.length_map] at hu2
  obtain ⟨va, vc, hv2⟩ := flds_len hv
  subst hu2 hv2
  have HV := Lib.hid hv
  obtain ⟨n, hn⟩ : ∃ n, n = ls.length := ⟨_, rfl⟩
  have HNN := Lib.hid hn
  rw [← hn] at hl ⊢
  have HNB : Hid (n ≤ 6000) := Lib.hid hl
  clear hv hu hf hlz hz hn hl
  go_enter Try.func14, Try.ntmps14
  go_wp2_with fail
  go_loopw [5, 6] (fun r i wr => ∃ k : Nat, k ≤ n ∧ i = .int .i64 k ∧ Hid (wr.ownsRow w.heap.size 9 1 r (valsL (ls.take k) (tx zs)).length ((valsL (ls.take k) (tx zs)).map strL)) ∧ Hid (Below w.heap.size w wr)) (fun _ i _ => n - (intOf i).toNat)
  case atStart => exact ⟨0, Nat.zero_le _, rfl, Lib.hid (World.ownsRow_nil _ _ _ _), Lib.hid (Below.refl _ _)⟩
  case round =>
    obtain ⟨k, hk, rfl, HO, HB⟩ := hrel
    obtain ⟨w1, hw1⟩ : ∃ w1 : World, w1 = wr := ⟨_, rfl⟩
    subst hw1
    by_cases hlt : k < n
    · obtain ⟨f, hfk⟩ : ∃ f, ls[k]? = some f := ⟨_, List.getElem?_eq_getElem (by rw [← HNN.out]; exact hlt)⟩
      have hv1 := flds_below HV.out HB.out
      obtain ⟨b, o, c, hvv, c0, c1⟩ := flds_at hv1 hfk
      injection hvv with e1 e2 e3
      subst e1 e3
      clear e2
      have hki : (k : Int) < (n : Int) := by omega
      have hk6 : (k : Int) < 6000 := by have := HNB.out; omega
      obtain ⟨q, hq⟩ : ∃ q, q = sameIn (fnm f) (tx zs) := ⟨_, rfl⟩
      have HX := Lib.hid (vals_snoc (tx zs) hfk)
      have HQ := Lib.hid hq
      have hcall := fun W hb => HS.out f W (List.mem_of_getElem? hfk) hb
      rw [← hq] at hcall
      have HCL := Lib.hid hcall
      have HL := vals_len ls (tx zs) k
      have hcnt : (valsL (ls.take k) (tx zs)).length ≤ 6000 := by have := HNB.out; omega
      clear hq hfk hv1 hcall HL
      go_wp2_with fail
      refine (HCL.out _ HB.out).mono ?_
      rintro e w2 ⟨rfl, hb2⟩
      have d1 := cell_stays c1 hb2
      have hown2 := own_below HO.out hb2
      have HB2 := Lib.hid (below_then HB.out hb2)
      have hsz := HB2.out.size
      clear hb2 c0 c1
      cases q with
      | true =>
        have HE : Hid (valsL (ls.take (k + 1)) (tx zs) = valsL (ls.take k) (tx zs) ++ [fvl f]) := Lib.hid (by rw [HX.out, ← HQ.out, if_pos rfl])
        go_wp2_with (at_builtin; refine wpList_append1 rfl _ _ 23 rfl w.heap.size 9 rfl i0 (.string ByteArray.empty) 16 Try.underlying23 hi hz0 hz1 hz2 rfl _ _ _ rfl hown2 rfl rfl (by omega) (by omega) hsz ?_; intro v' w' hown' hb')
        go_roundw
        case rel =>
          refine ⟨k + 1, by omega, by go_num, Lib.hid ?_, Lib.hid (HB2.out.trans hb')⟩
          rw [HE.out, List.length_append, List.map_append]
          show w'.ownsRow _ _ _ _ _ (_ ++ [strL (fvl f)])
          rw [show strL (fvl f) = .string f.hv from strL_data f.hv]
          exact hown'
        case measure => simp [intOf]; omega
      | false =>
        have HE : Hid (valsL (ls.take (k + 1)) (tx zs) = valsL (ls.take k) (tx zs)) := Lib.hid (by rw [HX.out, ← HQ.out, if_neg (by decide), List.append_nil])
        have HO2 := Lib.hid hown2
        clear hown2
        go_wp2_with fail
        go_roundw
        case rel => exact ⟨k + 1, by omega, by go_num, Lib.hid (by rw [HE.out]; exact HO2.out), HB2⟩
        case measure => simp [intOf]; omega
    · have HT : Hid (ls.take k = ls) := Lib.hid (List.take_of_length_le (by have := HNN.out; omega))
      go_wp2_with fail
      go_ret
      refine ⟨⟨_, rfl, ?_⟩, HB.out⟩
      have h := HO.out
      rw [HT.out] at h
      exact h

/-! few and short -/
theorem tot_snoc {ls : List FldM} {k : Nat} {f : FldM} (h : ls[k]? = some f) : fldTot (ls.take (k + 1)) = fldTot (ls.take k) + (1 + f.hn.size + f.hv.size) := by
  have app : ∀ a b : List FldM, fldTot (a ++ b) = fldTot a + fldTot b := fun a b => by
    induction a with
    | nil => simp [fldTot]
    | cons x r ih => simp only [List.cons_append, fldTot, ih]; omega
  rw [take_succ_of h, app]
  simp [fldTot]

theorem tot_take : ∀ (ls : List FldM) (k : Nat), fldTot (ls.take k) ≤ fldTot ls
  | [], k => by simp
  | f :: r, 0 => by simp [fldTot]
  | f :: r, k + 1 => by have := tot_take r k; simp only [List.take_succ_cons, fldTot]; omega

def FieldsV (ls : List FldM) (e : Ending) : Prop := ∃ b, e = .returned (.bool b) ∧ (b = true → fldTot ls ≤ 6000)

theorem fields_any (ls : List FldM) (v : Value) (w : World) (hv : FldsAt w v ls) (hok : FldOk ls) :
    Calls Try.prog 10 #[v] w fun e w' => FieldsV ls e ∧ ∃ m, w' = w.drewN m := by
  obtain ⟨va, vc, hv2⟩ := flds_len hv
  subst hv2
  have HV := Lib.hid hv
  have HOK := Lib.hid hok.2
  obtain ⟨n, hn⟩ : ∃ n, n = ls.length := ⟨_, rfl⟩
  have HNN := Lib.hid hn
  have hnb := hok.1
  rw [← hn] at hnb ⊢
  clear hv hok hn
  go_enter Try.func10, Try.ntmps10
  go_wp2_with fail
  go_loopw [3, 4] (fun r i wr => ∃ (k : Nat) (t : Int), k ≤ n ∧ i = .int .i64 k ∧ r = .int .i64 t ∧ 0 ≤ t ∧ t ≤ 1125899906842624 ∧ Hid (t = (n : Int) - k + fldTot (ls.take k)) ∧ Hid (∃ m, wr = w.drewN m)) (fun _ i _ => n - (intOf i).toNat)
  case atStart => exact ⟨0, n, Nat.zero_le _, rfl, rfl, by omega, by omega, Lib.hid (by simp [fldTot]), Lib.hid ⟨0, rfl⟩⟩
  case round =>
    obtain ⟨k, t, hk, rfl, rfl, ht0, ht1, HT, HM⟩ := hrel
    have hcell : ∀ p, wr.cell? p = w.cell? p := by obtain ⟨m, rfl⟩ := HM.out; intro p; rfl
    have HCELL := Lib.hid hcell
    obtain ⟨w1, hw1⟩ : ∃ w1 : World, w1 = wr := ⟨_, rfl⟩
    subst hw1
    clear hcell
    by_cases hlt : k < n
    · by_cases hle : t ≤ 6000
      · obtain ⟨f, hfk⟩ : ∃ f, ls[k]? = some f := ⟨_, List.getElem?_eq_getElem (by rw [← HNN.out]; exact hlt)⟩
        obtain ⟨b, o, c, hvv, c0, c1⟩ := flds_at HV.out hfk
        injection hvv with e1 e2 e3
        subst e1 e3
        clear e2
        rw [← HCELL.out] at c0 c1
        obtain ⟨s0, s1⟩ := HOK.out f (List.mem_of_getElem? hfk)
        have HX := Lib.hid (tot_snoc hfk)
        have hki : (k : Int) < (n : Int) := by omega
        obtain ⟨t1, ht1e⟩ : ∃ t1 : Int, t1 = t + f.hn.size := ⟨_, rfl⟩
        obtain ⟨t2, ht2e⟩ : ∃ t2 : Int, t2 = t1 + f.hv.size := ⟨_, rfl⟩
        have g1 : t + (f.hn.size : Int) = t1 := ht1e.symm
        have g2 : t1 + (f.hv.size : Int) = t2 := ht2e.symm
        have b1 : 0 ≤ t1 ∧ t1 ≤ 1125899906842624 := by omega
        have b2 : 0 ≤ t2 ∧ t2 ≤ 1125899906842624 := by omega
        have HT2 : Hid (t2 = (n : Int) - (k + 1 : Nat) + fldTot (ls.take (k + 1))) := Lib.hid (by have h1 := HX.out; have h2 := HT.out; omega)
        clear ht1e ht2e hfk s0 s1
        go_wp2_with fail
        go_quiet (fail)
        go_wp2_with fail
        go_roundw
        case rel => exact ⟨k + 1, t2, by omega, by go_num, by go_num, b2.1, b2.2, HT2, Lib.hid (drewN_two HM.out ⟨_, rfl⟩)⟩
        case measure => simp [intOf]; omega
      · go_wp2_with fail
        go_ret
        exact ⟨⟨false, rfl, fun h => by cases h⟩, HM.out⟩
    · have HF : Hid (t = (fldTot ls : Int)) := Lib.hid (by
        have h := HT.out
        rw [List.take_of_length_le (by have := HNN.out; omega)] at h
        omega)
      by_cases hle : t ≤ 6000
      · go_wp2_with fail
        go_ret
        exact ⟨⟨true, rfl, fun _ => by have := HF.out; omega⟩, HM.out⟩
      · go_wp2_with fail
        go_ret
        exact ⟨⟨false, rfl, fun h => by cases h⟩, HM.out⟩

/-- How long texts are together, each with one more. -/
def lsTot : List ByteArray → Nat
  | [] => 0
  | z :: r => 1 + z.size + lsTot r

theorem lsTot_app : ∀ a b : List ByteArray, lsTot (a ++ b) = lsTot a + lsTot b
  | [], b => by simp [lsTot]
  | x :: r, b => by simp only [List.cons_append, lsTot, lsTot_app r b]; omega

theorem lsTot_len : ∀ zs : List ByteArray, zs.length ≤ lsTot zs
  | [] => Nat.zero_le _
  | z :: r => by have := lsTot_len r; simp only [lsTot, List.length_cons]; omega

theorem lsTot_mem : ∀ {zs : List ByteArray} {z : ByteArray}, z ∈ zs → z.size ≤ lsTot zs
  | x :: r, z, h => by
    simp only [lsTot]
    rcases List.mem_cons.1 h with rfl | h
    · omega
    · have := lsTot_mem h; omega

theorem total2_any (v : Value) (zs : List ByteArray) (m : Int) (w : World) (hm : 0 ≤ m ∧ m ≤ 1073741824) (hl : zs.length ≤ 281474976710656) (hz : ∀ z ∈ zs, z.size ≤ 281474976710656) (hv : SliceAt w v (zs.map strV)) :
    Calls Try.prog 11 #[v, .int .i64 m] w fun e w' => (∃ r : Int, e = .returned (.int .i64 r) ∧ 0 ≤ r ∧ r ≤ 1125899906842624 ∧ (r ≤ m → (lsTot zs : Int) ≤ r)) ∧ w' = w := by
  by_cases hne : zs = []
  · subst hne
    obtain ⟨a, cp, rfl⟩ := hv.empty
    go_enter Try.func11, Try.ntmps11
    go_wp2
    refine wp_loop_rounds 1 ?_
    rw [rounds_succ]
    go_wp2
    go_ret
    exact ⟨⟨0, rfl, by simp, by decide, by simp [lsTot]⟩, rfl⟩
  · obtain ⟨b, off, cp, rfl, hc⟩ := hv.at (by simpa using hne)
    rw [List.length_map]
    have HC := Lib.hid hc
    have HZ := Lib.hid hz
    clear hc hv hz
    go_enter Try.func11, Try.ntmps11
    go_wp2
    go_loop [5, 6] (fun n i => ∃ (k : Nat) (r : Int), k ≤ zs.length ∧ i = .int .i64 k ∧ n = .int .i64 r ∧ (zs.length : Int) ≤ r ∧ r ≤ 1125899906842624 ∧ Hid ((lsTot (zs.take k) : Int) + zs.length = r + k)) (fun _ i => zs.length - (intOf i).toNat)
    case atStart => exact ⟨0, zs.length, Nat.zero_le _, rfl, rfl, Int.le_refl _, by omega, Lib.hid (by simp [lsTot])⟩
    case round =>
      obtain ⟨k, r, hk, rfl, rfl, hr1, hr2, HR⟩ := hrel
      by_cases hlt : k < zs.length
      · obtain ⟨d, hd⟩ : ∃ d, zs[k]? = some d := ⟨_, List.getElem?_eq_getElem hlt⟩
        have hcell := HC.out k (.string d) (by rw [List.getElem?_map, hd]; rfl)
        have hds := HZ.out d (List.mem_of_getElem? hd)
        have HX : Hid (lsTot (zs.take (k + 1)) = lsTot (zs.take k) + (1 + d.size)) := Lib.hid (by rw [take_succ_of hd, lsTot_app]; simp [lsTot])
        clear hd
        by_cases hrm : r ≤ m
        · go_wp2
          go_round
          case rel => exact ⟨k + 1, r + d.size, by omega, by go_num, by go_num, by omega, by omega, Lib.hid (by have h1 := HX.out; have h2 := HR.out; omega)⟩
          case measure => simp [intOf]; omega
        · go_wp2
          go_ret
          exact ⟨⟨r, rfl, by omega, hr2, fun h => by omega⟩, rfl⟩
      · have HF : Hid ((lsTot zs : Int) = r) := Lib.hid (by
          have h := HR.out
          rw [List.take_of_length_le (by omega)] at h
          omega)
        go_wp2
        go_ret
        exact ⟨⟨r, rfl, by omega, hr2, fun _ => by have := HF.out; omega⟩, rfl⟩

end Go.Proofs.Ytfgpcajjnpmoeaa
