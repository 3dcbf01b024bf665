/- The reference's reader of URLs: its path, its authority. -/
import Derived.Lib.OthersKept
import Derived.Test.YtnecjofgjbfheaaGreatDoorProg
import Derived.Test.YtnecjofgjbfheaaGreatDoorKit
import Derived.Test.YtnecjofgjbfheaaGreatDoorInfo
import Derived.Test.YtnecjofgjbfheaaGreatDoorPlain
import Derived.Test.YtnecjofgjbfheaaGreatDoorAsc4
import Derived.Test.YtnecjofgjbfheaaGreatDoorRow
import Derived.Test.YtnecjofgjbfheaaGreatDoorFp
import Derived.Test.YtnecjofgjbfheaaGreatDoorPct0
import Derived.Test.YtnecjofgjbfheaaGreatDoorPct3
import Derived.Test.YtnecjofgjbfheaaGreatDoorHst0
import Derived.Test.YtnecjofgjbfheaaGreatDoorHst1
import Derived.Test.YtnecjofgjbfheaaGreatDoorHst4
import Derived.Test.YtnecjofgjbfheaaGreatDoorHst6
import Derived.Test.YtnecjofgjbfheaaGreatDoorUrl0
import Derived.Test.YtnecjofgjbfheaaGreatDoorUrl4
import Derived.Test.YtnecjofgjbfheaaGreatDoorUrl12
import Derived.Test.YtnecjofgjbfheaaGreatDoorUrr1
namespace Go.Proofs.YtnecjofgjbfheaaGreatDoor
open Go.RowKit Go.Proofs
set_option maxRecDepth 100000

def curL (s : ByteArray) (a k : Nat) : List UInt8 := (s.data.toList.drop a).take (k - a)

theorem cur_nil (s : ByteArray) (a : Nat) : curL s a a = [] := by unfold curL; rw [Nat.sub_self, List.take_zero]

theorem cur_snoc (s : ByteArray) (a k : Nat) (ha : a ≤ k) (h : k < s.size) : curL s a (k + 1) = curL s a k ++ [s[k]] := by
  have hl : k < s.data.toList.length := by rw [size_data]; exact h
  unfold curL
  have e : k + 1 - a = (k - a) + 1 := by omega
  rw [e, List.take_succ_eq_append_getElem (by rw [List.length_drop]; omega)]
  congr 2
  rw [List.getElem_drop]
  have e2 : a + (k - a) = k := by omega
  simp only [e2]
  rfl

theorem cur_ext (s : ByteArray) (a k : Nat) : (s.extract a k).data.toList = curL s a k := by rw [extract_list, List.drop_take]; rfl

theorem segs_ne : ∀ (l cur : List UInt8), segsGo cur l ≠ []
  | [], cur => by simp [segsGo]
  | c :: r, cur => by
    unfold segsGo
    split
    · simp
    · exact segs_ne r _

theorem dropAt (s : ByteArray) (k : Nat) (h : k < s.size) : s.data.toList.drop k = s[k] :: s.data.toList.drop (k + 1) := by
  rw [List.drop_eq_getElem_cons (by rw [size_data]; exact h)]
  rfl

theorem segs_sep (s : ByteArray) (a k : Nat) (h : k < s.size) (hs : sepB s[k] = true) : segsGo (curL s a k) (s.data.toList.drop k) = curL s a k :: segsGo (curL s (k + 1) (k + 1)) (s.data.toList.drop (k + 1)) := by
  rw [dropAt s k h, cur_nil]
  conv => lhs; unfold segsGo
  rw [if_pos hs]

theorem segs_not (s : ByteArray) (a k : Nat) (ha : a ≤ k) (h : k < s.size) (hs : sepB s[k] = false) : segsGo (curL s a k) (s.data.toList.drop k) = segsGo (curL s a (k + 1)) (s.data.toList.drop (k + 1)) := by
  rw [dropAt s k h, cur_snoc s a k ha h]
  conv => lhs; unfold segsGo
  rw [if_neg (by rw [hs]; decide)]

theorem segs_end (s : ByteArray) (a : Nat) : segsGo (curL s a s.size) (s.data.toList.drop s.size) = [curL s a s.size] := by
  rw [List.drop_of_length_le (by rw [size_data]; exact Nat.le_refl _)]
  rfl

theorem sep_ways (c : UInt8) : (sepB c = false ∧ ((c.toNat : Int) != 47) = true ∧ ((c.toNat : Int) != 92) = true) ∨ (sepB c = true ∧ (((c.toNat : Int) != 47) = false ∨ (((c.toNat : Int) != 47) = true ∧ ((c.toNat : Int) != 92) = false))) :=
  byte_all (p := fun c => (sepB c = false ∧ ((c.toNat : Int) != 47) = true ∧ ((c.toNat : Int) != 92) = true) ∨ (sepB c = true ∧ (((c.toNat : Int) != 47) = false ∨ (((c.toNat : Int) != 47) = true ∧ ((c.toNat : Int) != 92) = false)))) (by decide +kernel) c

theorem slash_take (R : List (List UInt8)) (i : Nat) (h : i < R.length) : slashL (R.take (i + 1)) = slashL (R.take i) ++ 47 :: R[i] := by
  unfold slashL
  rw [List.take_succ_eq_append_getElem h, List.flatMap_append]
  simp

def PathI (s : ByteArray) (fr k : Nat) (ps : List (List UInt8)) : Prop := (k ≤ s.size → resGo ps (segsGo (curL s fr k) (s.data.toList.drop k)) = resGo [] (segsGo [] (s.data.toList.drop 1))) ∧ (¬ k ≤ s.size → ps = resGo [] (segsGo [] (s.data.toList.drop 1)) ∧ ps ≠ [])

theorem path_go {s : ByteArray} {fr k : Nat} {ps : List (List UInt8)} (h : PathI s fr k ps) (ha : fr ≤ k) (hk : k < s.size) (hs : sepB s[k] = false) : PathI s fr (k + 1) ps :=
  ⟨fun _ => by rw [← segs_not s fr k ha hk hs]; exact h.1 (by omega), fun hh => absurd (by omega) hh⟩

/-- What a piece makes of the row. -/
def stepR (ps : List (List UInt8)) (p : List UInt8) (last : Bool) : List (List UInt8) :=
  if dotsP p = 0 then ps ++ [encL 3 p] else (if dotsP p = 2 then ps.dropLast else ps) ++ (if last then [[]] else [])

theorem path_sep {s : ByteArray} {fr k : Nat} {ps : List (List UInt8)} (h : PathI s fr k ps) (hk : k < s.size) (hs : sepB s[k] = true) : PathI s (k + 1) (k + 1) (stepR ps (curL s fr k) false) :=
  ⟨fun _ => by
    have h1 := h.1 (by omega)
    rw [segs_sep s fr k hk hs, resGo] at h1
    unfold stepR
    rw [← h1]
    have hn := segs_ne (s.data.toList.drop (k + 1)) (curL s (k + 1) (k + 1))
    split
    · rfl
    · first
        | rfl
        | (rw [if_neg hn]; rfl), fun hh => absurd (by omega) hh⟩

theorem path_end {s : ByteArray} {fr : Nat} {ps : List (List UInt8)} (h : PathI s fr s.size ps) : PathI s (s.size + 1) (s.size + 1) (stepR ps (curL s fr s.size) true) :=
  ⟨fun hh => absurd hh (by omega), fun _ => by
    have h1 := h.1 (Nat.le_refl _)
    rw [segs_end, resGo] at h1
    have h2 : stepR ps (curL s fr s.size) true = resGo [] (segsGo [] (s.data.toList.drop 1)) := by
      rw [← h1]
      unfold stepR
      split
      · rfl
      · rw [if_pos rfl, if_pos rfl]
        rfl
    refine ⟨h2, ?_⟩
    unfold stepR
    split <;> simp⟩

theorem path_none : pathP [] = [47] := by kernel_rfl

theorem path_some {s : List UInt8} (h : ∃ c r, s = c :: r ∧ sepB c = true) (hn : resGo [] (segsGo [] (s.drop 1)) ≠ []) : pathP s = slashL (resGo [] (segsGo [] (s.drop 1))) := by
  unfold pathP
  rw [segs_eq h, join_slash _ hn]

set_option maxHeartbeats 8000000 in
theorem rpath_any (s : ByteArray) (hs : s.size ≤ 65536) (hsep : s.size ≠ 0 → ∃ c r, s.data.toList = c :: r ∧ sepB c = true) (w : World) :
    Calls Tryz.prog 84 #[.string s] w fun e w' => e = .returned (strL (pathP s.data.toList)) ∧ Below w.heap.size w w' := by
  obtain ⟨i0, hi, hz0, hz1, hz2⟩ := info_parts Tryz.infoStr
  by_cases h0 : s.size = 0
  · have y := emptyYes h0
    have HR : Hid (strL (pathP s.data.toList) = .string ⟨#[47]⟩) := Lib.hid (by rw [nil_size h0, path_none]; rfl)
    clear h0 hsep
    go_enter Tryz.func84, Tryz.ntmps84
    go_wp2_with fail
    go_ret
    exact ⟨by rw [HR.out]; rfl, Below.refl _ _⟩
  have y := emptyNo h0
  have HSP := Lib.hid (hsep h0)
  clear hsep
  go_enter Tryz.func84, Tryz.ntmps84
  go_wp2_with fail
  go_loopw [3, 4, 5] (fun v f i wr => ∃ (fr k : Nat) (ps : List (List UInt8)), f = .int .i64 fr ∧ i = .int .i64 k ∧ fr ≤ k ∧ k ≤ s.size + 1 ∧ ps.length ≤ k ∧ wr.ownsRow w.heap.size 9 1 v ps.length (ps.map strL) ∧ Hid (Below w.heap.size w wr) ∧ Hid (PathI s fr k ps) ∧ Hid (∀ p ∈ ps, p.length ≤ 196608)) (fun _ _ i _ => s.size + 1 - (intOf i).toNat)
  case atStart => exact ⟨1, 1, [], rfl, rfl, by omega, by omega, by simp, World.ownsRow_nil _ _ _ _, Lib.hid (Below.refl _ _), Lib.hid ⟨fun _ => by rw [cur_nil], fun hh => absurd (by omega) hh⟩, Lib.hid (by simp)⟩
  case round =>
    obtain ⟨fr, k, ps, rfl, rfl, hfr, hk, hps, hown, HB, HI, HP⟩ := hrel
    obtain ⟨wo, hwo⟩ : ∃ wo : World, wo = wr := ⟨_, rfl⟩
    subst hwo
    by_cases hle : k ≤ s.size
    · have hlei : (k : Int) ≤ (s.size : Int) := by omega
      obtain ⟨st, hst⟩ : ∃ st : ByteArray, st = s.extract fr k := ⟨_, rfl⟩
      have hstl : st.data.toList = curL s fr k := by rw [hst, cur_ext]
      have hss : st.size ≤ 65536 := by
        rw [← size_data, hstl]
        unfold curL
        rw [List.length_take, List.length_drop, size_data]
        omega
      have HD := Lib.hid (fun W => rdots_any st (by omega) W)
      rw [hstl] at HD
      have HX : Hid (s.extract fr k = st) := Lib.hid hst.symm
      by_cases hlt : k < s.size
      · have hlti : (k : Int) < (s.size : Int) := by omega
        have hkz : ((k : Int) == (s.size : Int)) = false := beq_eq_false_iff_ne.2 (by omega)
        rcases sep_ways s[k] with ⟨hsp, h47, h92⟩ | ⟨hsp, hw⟩
        · have HI2 : Hid (PathI s fr (k + 1) ps) := Lib.hid (path_go HI.out hfr hlt hsp)
          clear hsp HD hst hstl hss HX
          go_wp2_with fail
          go_roundw
          case rel => exact ⟨fr, k + 1, ps, rfl, by go_num, by omega, by omega, by omega, hown, HB, HI2, HP⟩
          case measure => first | (simp [intOf]; done) | (simp [intOf]; omega)
        · have HN : Hid (PathI s (k + 1) (k + 1) (stepR ps (curL s fr k) false)) := Lib.hid (path_sep HI.out hlt hsp)
          have fri0 : (0 : Int) ≤ (fr : Int) := by omega
          have frk : (fr : Int) ≤ (k : Int) := by omega
          clear hsp
          rcases hw with h47 | ⟨h47, h92⟩
          all_goals
            rcases dots_three (curL s fr k) with hd | hd | hd
            · rw [hd] at HD
              have HD2 : Hid (∀ W, Calls Tryz.prog 108 #[.string st] W fun e w' => e = .returned (.int .i64 0) ∧ Below W.heap.size W w') := HD
              have HE := Lib.hid (fun W => ref_encode_any st (by omega) 3 W)
              rw [hstl] at HE
              obtain ⟨et, het⟩ : ∃ et : ByteArray, et = ⟨(encL 3 (curL s fr k)).toArray⟩ := ⟨_, rfl⟩
              rw [← het] at HE
              have HI2 : Hid (PathI s (k + 1) (k + 1) (ps ++ [encL 3 (curL s fr k)])) := Lib.hid (by
                have h := HN.out
                unfold stepR at h
                rw [if_pos hd] at h
                exact h)
              have HP2 : Hid (∀ p ∈ (ps ++ [encL 3 (curL s fr k)]), p.length ≤ 196608) := Lib.hid (by
                intro p hp
                rcases List.mem_append.1 hp with h | h
                · exact HP.out p h
                · rw [List.mem_singleton.1 h]; rw [← hstl]; exact enc_size hss 3)
              have HET : Hid (Value.string et = strL (encL 3 (curL s fr k))) := Lib.hid (by rw [het]; rfl)
              clear HD het hd hst hstl HN HI
              go_wp2_with fail
              rw [HX.out]
              refine (HD2.out _).mono ?_
              rintro e w1 ⟨rfl, hb1⟩
              have HB1 := Lib.hid (HB.out.trans (hb1.mono HB.out.size))
              have hown1 := own_below hown hb1
              clear hb1
              go_wp2_with fail
              refine (HE.out _).mono ?_
              rintro e w2 ⟨rfl, hb2⟩
              have HB2 := Lib.hid (HB1.out.trans (hb2.mono HB1.out.size))
              have hown2 := own_below hown1 hb2
              clear hb2 hown1
              go_wp2_with (at_builtin; refine wpList_append1 rfl _ _ 38 rfl w.heap.size 9 rfl i0 (.string ByteArray.empty) 16 Tryz.underlying38 hi hz0 hz1 hz2 rfl _ ps.length _ rfl hown2 rfl rfl (by omega) (by omega) (Nat.le_trans HB2.out.size (Nat.le_refl _)) ?_; intro v' w3 hown' hb3)
              go_roundw
              case rel => exact ⟨k + 1, k + 1, ps ++ [encL 3 (curL s fr k)], by go_num, by go_num, by omega, by omega, by first | omega | (simp; done) | (simp; omega), by rw [List.length_append, List.map_append, List.map_singleton, ← HET.out]; exact hown', Lib.hid (HB2.out.trans hb3), HI2, HP2⟩
              case measure => first | (simp [intOf]; done) | (simp [intOf]; omega)
            · rw [hd] at HD
              have HD2 : Hid (∀ W, Calls Tryz.prog 108 #[.string st] W fun e w' => e = .returned (.int .i64 1) ∧ Below W.heap.size W w') := HD
              have HI2 : Hid (PathI s (k + 1) (k + 1) (ps)) := Lib.hid (by
                have h := HN.out
                unfold stepR at h
                rw [if_neg (by rw [hd]; decide), hd] at h
                rw [if_neg (by decide), if_neg (by decide), List.append_nil] at h
                exact h)
              clear HD hd hst hstl HN HI
              go_wp2_with fail
              rw [HX.out]
              refine (HD2.out _).mono ?_
              rintro e w1 ⟨rfl, hb1⟩
              have HB1 := Lib.hid (HB.out.trans (hb1.mono HB.out.size))
              have hown1 := own_below hown hb1
              clear hb1
              go_wp2_with fail
              go_roundw
              case rel => exact ⟨k + 1, k + 1, ps, by go_num, by go_num, by omega, by omega, by first | omega | (simp; done) | (simp; omega), hown1, HB1, HI2, HP⟩
              case measure => first | (simp [intOf]; done) | (simp [intOf]; omega)
            · rw [hd] at HD
              have HD2 : Hid (∀ W, Calls Tryz.prog 108 #[.string st] W fun e w' => e = .returned (.int .i64 2) ∧ Below W.heap.size W w') := HD
              by_cases hp0 : ps = []
              · subst hp0
                simp only [List.length_nil, List.map_nil] at hown
                obtain ⟨va, vc, rfl⟩ := own_len hown
                have HI2 : Hid (PathI s (k + 1) (k + 1) (([] : List (List UInt8)))) := Lib.hid (by
                  have h := HN.out
                  unfold stepR at h
                  rw [if_neg (by rw [hd]; decide), hd] at h
                  rw [if_pos rfl, if_neg (by decide)] at h
                  exact h)
                clear HD hd hst hstl HN HI
                go_wp2_with fail
                rw [HX.out]
                refine (HD2.out _).mono ?_
                rintro e w1 ⟨rfl, hb1⟩
                have HB1 := Lib.hid (HB.out.trans (hb1.mono HB.out.size))
                have hown1 := own_below hown hb1
                clear hb1
                go_wp2_with fail
                go_roundw
                case rel => exact ⟨k + 1, k + 1, [], by go_num, by go_num, by omega, by omega, by first | omega | (simp; done) | (simp; omega), hown1, HB1, HI2, HP⟩
                case measure => first | (simp [intOf]; done) | (simp [intOf]; omega)
              · obtain ⟨m, hm⟩ : ∃ m, ps.length = m + 1 := ⟨ps.length - 1, by have := List.length_pos_iff.2 hp0; omega⟩
                obtain ⟨vg, vc, rfl, _⟩ := own_some hown (by omega)
                rw [hm] at hown
                have hpz : (0 : Int) < (m : Int) + 1 := by omega
                have hm0 : (0 : Int) ≤ (m : Int) := by omega
                rw [hm]
                have HI2 : Hid (PathI s (k + 1) (k + 1) (ps.take m)) := Lib.hid (by
                  have h := HN.out
                  unfold stepR at h
                  rw [if_neg (by rw [hd]; decide), hd] at h
                  rw [if_pos rfl, if_neg (by decide), List.append_nil] at h
                  rw [List.dropLast_eq_take, hm, Nat.add_sub_cancel] at h
                  exact h)
                have HP2 : Hid (∀ p ∈ ps.take m, p.length ≤ 196608) := Lib.hid (fun p hp => HP.out p (List.take_subset _ _ hp))
                clear HD hd hst hstl HN HI
                go_wp2_with fail
                rw [HX.out]
                refine (HD2.out _).mono ?_
                rintro e w1 ⟨rfl, hb1⟩
                have HB1 := Lib.hid (HB.out.trans (hb1.mono HB.out.size))
                have hown1 := own_below hown hb1
                clear hb1
                obtain ⟨hown2, hmc⟩ := own_trunc hown1
                rw [← List.map_take] at hown2
                have hc0 : ¬ vc = 0 := by omega
                have hmcz : (m : Int) ≤ (vc : Int) := by omega
                clear hown1
                go_wp2_with fail
                go_roundw
                case rel => exact ⟨k + 1, k + 1, ps.take m, by go_num, by go_num, by omega, by omega, by first | omega | (simp; done) | (simp; omega), by rw [List.length_take, hm, Nat.min_eq_left (by omega)]; exact hown2, HB1, HI2, HP2⟩
                case measure => first | (simp [intOf]; done) | (simp [intOf]; omega)
      · obtain rfl : k = s.size := by omega
        have hlti : ¬ (s.size : Int) < (s.size : Int) := by omega
        have hkz : ((s.size : Int) == (s.size : Int)) = true := beq_iff_eq.2 rfl
        have HN : Hid (PathI s (s.size + 1) (s.size + 1) (stepR ps (curL s fr s.size) true)) := Lib.hid (path_end HI.out)
        have fri0 : (0 : Int) ≤ (fr : Int) := by omega
        have frk : (fr : Int) ≤ (s.size : Int) := by omega
        rcases dots_three (curL s fr s.size) with hd | hd | hd
        · rw [hd] at HD
          have HD2 : Hid (∀ W, Calls Tryz.prog 108 #[.string st] W fun e w' => e = .returned (.int .i64 0) ∧ Below W.heap.size W w') := HD
          have HE := Lib.hid (fun W => ref_encode_any st (by omega) 3 W)
          rw [hstl] at HE
          obtain ⟨et, het⟩ : ∃ et : ByteArray, et = ⟨(encL 3 (curL s fr s.size)).toArray⟩ := ⟨_, rfl⟩
          rw [← het] at HE
          have HI2 : Hid (PathI s (s.size + 1) (s.size + 1) (ps ++ [encL 3 (curL s fr s.size)])) := Lib.hid (by
            have h := HN.out
            unfold stepR at h
            rw [if_pos hd] at h
            exact h)
          have HP2 : Hid (∀ p ∈ (ps ++ [encL 3 (curL s fr s.size)]), p.length ≤ 196608) := Lib.hid (by
            intro p hp
            rcases List.mem_append.1 hp with h | h
            · exact HP.out p h
            · rw [List.mem_singleton.1 h]; rw [← hstl]; exact enc_size hss 3)
          have HET : Hid (Value.string et = strL (encL 3 (curL s fr s.size))) := Lib.hid (by rw [het]; rfl)
          clear HD het hd hst hstl HN HI
          go_wp2_with fail
          rw [HX.out]
          refine (HD2.out _).mono ?_
          rintro e w1 ⟨rfl, hb1⟩
          have HB1 := Lib.hid (HB.out.trans (hb1.mono HB.out.size))
          have hown1 := own_below hown hb1
          clear hb1
          go_wp2_with fail
          refine (HE.out _).mono ?_
          rintro e w2 ⟨rfl, hb2⟩
          have HB2 := Lib.hid (HB1.out.trans (hb2.mono HB1.out.size))
          have hown2 := own_below hown1 hb2
          clear hb2 hown1
          go_wp2_with (at_builtin; refine wpList_append1 rfl _ _ 38 rfl w.heap.size 9 rfl i0 (.string ByteArray.empty) 16 Tryz.underlying38 hi hz0 hz1 hz2 rfl _ ps.length _ rfl hown2 rfl rfl (by omega) (by omega) (Nat.le_trans HB2.out.size (Nat.le_refl _)) ?_; intro v' w3 hown' hb3)
          go_roundw
          case rel => exact ⟨s.size + 1, s.size + 1, ps ++ [encL 3 (curL s fr s.size)], by go_num, by go_num, by omega, by omega, by first | omega | (simp; done) | (simp; omega), by rw [List.length_append, List.map_append, List.map_singleton, ← HET.out]; exact hown', Lib.hid (HB2.out.trans hb3), HI2, HP2⟩
          case measure => first | (simp [intOf]; done) | (simp [intOf]; omega)
        · rw [hd] at HD
          have HD2 : Hid (∀ W, Calls Tryz.prog 108 #[.string st] W fun e w' => e = .returned (.int .i64 1) ∧ Below W.heap.size W w') := HD
          have HI2 : Hid (PathI s (s.size + 1) (s.size + 1) (ps ++ [[]])) := Lib.hid (by
            have h := HN.out
            unfold stepR at h
            rw [if_neg (by rw [hd]; decide), hd] at h
            rw [if_neg (by decide), if_pos rfl] at h
            exact h)
          have HP2 : Hid (∀ p ∈ (ps ++ [[]]), p.length ≤ 196608) := Lib.hid (by
            intro p hp
            rcases List.mem_append.1 hp with h | h
            · exact HP.out p h
            · rw [List.mem_singleton.1 h]; simp)
          clear HD hd hst hstl HN HI
          go_wp2_with fail
          rw [HX.out]
          refine (HD2.out _).mono ?_
          rintro e w1 ⟨rfl, hb1⟩
          have HB1 := Lib.hid (HB.out.trans (hb1.mono HB.out.size))
          have hown1 := own_below hown hb1
          clear hb1
          go_wp2_with (at_builtin; refine wpList_append1 rfl _ _ 38 rfl w.heap.size 9 rfl i0 (.string ByteArray.empty) 16 Tryz.underlying38 hi hz0 hz1 hz2 rfl _ ps.length _ rfl hown1 rfl rfl (by omega) (by omega) (Nat.le_trans HB1.out.size (Nat.le_refl _)) ?_; intro v' w3 hown' hb3)
          go_roundw
          case rel => exact ⟨s.size + 1, s.size + 1, ps ++ [[]], by go_num, by go_num, by omega, by omega, by first | omega | (simp; done) | (simp; omega), by rw [List.length_append, List.map_append]; exact hown', Lib.hid (HB1.out.trans hb3), HI2, HP2⟩
          case measure => first | (simp [intOf]; done) | (simp [intOf]; omega)
        · rw [hd] at HD
          have HD2 : Hid (∀ W, Calls Tryz.prog 108 #[.string st] W fun e w' => e = .returned (.int .i64 2) ∧ Below W.heap.size W w') := HD
          by_cases hp0 : ps = []
          · subst hp0
            simp only [List.length_nil, List.map_nil] at hown
            obtain ⟨va, vc, rfl⟩ := own_len hown
            have HI2 : Hid (PathI s (s.size + 1) (s.size + 1) (([] : List (List UInt8)) ++ [[]])) := Lib.hid (by
              have h := HN.out
              unfold stepR at h
              rw [if_neg (by rw [hd]; decide), hd] at h
              rw [if_pos rfl, if_pos rfl] at h
              exact h)
            have HP2 : Hid (∀ p ∈ (([] : List (List UInt8)) ++ [[]]), p.length ≤ 196608) := Lib.hid (by simp)
            clear HD hd hst hstl HN HI
            go_wp2_with fail
            rw [HX.out]
            refine (HD2.out _).mono ?_
            rintro e w1 ⟨rfl, hb1⟩
            have HB1 := Lib.hid (HB.out.trans (hb1.mono HB.out.size))
            have hown1 := own_below hown hb1
            clear hb1
            go_wp2_with (at_builtin; refine wpList_append1 rfl _ _ 38 rfl w.heap.size 9 rfl i0 (.string ByteArray.empty) 16 Tryz.underlying38 hi hz0 hz1 hz2 rfl _ 0 _ rfl hown1 rfl rfl (by omega) (by omega) (Nat.le_trans HB1.out.size (Nat.le_refl _)) ?_; intro v' w3 hown' hb3)
            go_roundw
            case rel => exact ⟨s.size + 1, s.size + 1, [[]], by go_num, by go_num, by omega, by omega, by first | omega | (simp; done) | (simp; omega), hown', Lib.hid (HB1.out.trans hb3), HI2, HP2⟩
            case measure => first | (simp [intOf]; done) | (simp [intOf]; omega)
          · obtain ⟨m, hm⟩ : ∃ m, ps.length = m + 1 := ⟨ps.length - 1, by have := List.length_pos_iff.2 hp0; omega⟩
            obtain ⟨vg, vc, rfl, _⟩ := own_some hown (by omega)
            rw [hm] at hown
            have hpz : (0 : Int) < (m : Int) + 1 := by omega
            have hm0 : (0 : Int) ≤ (m : Int) := by omega
            rw [hm]
            have HI2 : Hid (PathI s (s.size + 1) (s.size + 1) (ps.take m ++ [[]])) := Lib.hid (by
              have h := HN.out
              unfold stepR at h
              rw [if_neg (by rw [hd]; decide), hd] at h
              rw [if_pos rfl, if_pos rfl] at h
              rw [List.dropLast_eq_take, hm, Nat.add_sub_cancel] at h
              exact h)
            have HP2 : Hid (∀ p ∈ (ps.take m ++ [[]]), p.length ≤ 196608) := Lib.hid (by
              intro p hp
              rcases List.mem_append.1 hp with h | h
              · exact HP.out p (List.take_subset _ _ h)
              · rw [List.mem_singleton.1 h]; simp)
            clear HD hd hst hstl HN HI
            go_wp2_with fail
            rw [HX.out]
            refine (HD2.out _).mono ?_
            rintro e w1 ⟨rfl, hb1⟩
            have HB1 := Lib.hid (HB.out.trans (hb1.mono HB.out.size))
            have hown1 := own_below hown hb1
            clear hb1
            obtain ⟨hown2, hmc⟩ := own_trunc hown1
            rw [← List.map_take] at hown2
            have hc0 : ¬ vc = 0 := by omega
            have hmcz : (m : Int) ≤ (vc : Int) := by omega
            clear hown1
            go_wp2_with (at_builtin; refine wpList_append1 rfl _ _ 38 rfl w.heap.size 9 rfl i0 (.string ByteArray.empty) 16 Tryz.underlying38 hi hz0 hz1 hz2 rfl _ m _ rfl hown2 rfl rfl (by omega) (by omega) (Nat.le_trans HB1.out.size (Nat.le_refl _)) ?_; intro v' w3 hown' hb3)
            go_roundw
            case rel => exact ⟨s.size + 1, s.size + 1, ps.take m ++ [[]], by go_num, by go_num, by omega, by omega, by first | omega | (simp; done) | (simp; omega), by rw [List.length_append, List.length_take, hm, Nat.min_eq_left (by omega), List.map_append]; exact hown', Lib.hid (HB1.out.trans hb3), HI2, HP2⟩
            case measure => first | (simp [intOf]; done) | (simp [intOf]; omega)
    · obtain rfl : k = s.size + 1 := by omega
      have hlei : ¬ (s.size : Int) + 1 ≤ (s.size : Int) := by omega
      obtain ⟨hR, hRn⟩ := HI.out.2 (by omega)
      have HPA : Hid (pathP s.data.toList = slashL ps) := Lib.hid (by
        rw [hR]
        refine path_some HSP.out ?_
        rw [← hR]
        exact hRn)
      have hpl : 0 < ps.length := List.length_pos_iff.2 hRn
      have hpz : ((ps.length : Int) == 0) = false := beq_eq_false_iff_ne.2 (by omega)
      have hsl := SliceAt.own hown
      obtain ⟨sb, so, sc, rfl, hcell⟩ := hsl.at (by intro h; have := congrArg List.length h; rw [List.length_map, List.length_nil] at this; omega)
      rw [List.length_map] at *
      have HCE := Lib.hid hcell
      clear hsl hR hRn hcell HI hown HSP
      go_wp2_with fail
      go_loop [9, 10] (fun o i => ∃ (ob : ByteArray) (n : Nat), o = .string ob ∧ i = .int .i64 n ∧ n ≤ ps.length ∧ ob.size ≤ n * 196609 ∧ Hid (ob.data.toList = slashL (ps.take n))) (fun _ i => ps.length - (intOf i).toNat)
      case atStart => exact ⟨⟨#[]⟩, 0, rfl, rfl, Nat.zero_le _, by show 0 ≤ _; omega, Lib.hid rfl⟩
      case round =>
        obtain ⟨ob, n, rfl, rfl, hn, hob, HO⟩ := hrel
        by_cases hnl : n < ps.length
        · have hni : (n : Int) < (ps.length : Int) := by omega
          have hn0 : (0 : Int) ≤ (n : Int) := by omega
          obtain ⟨sg, hsg⟩ : ∃ sg : ByteArray, sg = ⟨(ps[n]).toArray⟩ := ⟨_, rfl⟩
          have hce : wo.cell? ⟨sb, so + n, none⟩ = some (.string sg) := by
            have h := HCE.out n (strL ps[n]) (by rw [List.getElem?_map, List.getElem?_eq_getElem hnl]; rfl)
            rw [h, hsg]
            rfl
          have hsz : sg.size ≤ 196608 := by rw [hsg, mk_size]; exact HP.out _ (List.getElem_mem _)
          have HO2 : Hid (((ob ++ ⟨#[47]⟩) ++ sg).data.toList = slashL (ps.take (n + 1))) := Lib.hid (by
            rw [mk_app, mk_app, HO.out, slash_take ps n hnl, hsg]
            simp)
          have t1 : ¬ 9223372036854775807 < ob.size + 1 := by omega
          have t2 : ¬ 9223372036854775807 < ob.size + 1 + sg.size := by omega
          clear hsg
          go_wp2_with fail
          go_round
          case rel => exact ⟨(ob ++ ⟨#[47]⟩) ++ sg, n + 1, rfl, by go_num, by omega, by rw [ByteArray.size_append, ByteArray.size_append, show (⟨#[47]⟩ : ByteArray).size = 1 from rfl]; omega, HO2⟩
          case measure => first | (simp [intOf]; done) | (simp [intOf]; omega)
        · have hni : ¬ (n : Int) < (ps.length : Int) := by omega
          have HF : Hid (strL (pathP s.data.toList) = .string ob) := Lib.hid (by
            have h := HO.out
            rw [List.take_of_length_le (by omega)] at h
            rw [HPA.out]
            exact strL_of h)
          go_wp2_with fail
          go_ret
          exact ⟨by rw [HF.out]; rfl, HB.out⟩

theorem up_take (of l : List UInt8) : l.take (upL of l).length = upL of l ∧ l.drop (upL of l).length = fromL of l := by
  have h := up_from of l
  constructor
  · conv => lhs; rw [← h]
    rw [List.take_left' (by rw [h])]
  · conv => lhs; rw [← h]
    rw [List.drop_left' (by rw [h])]

theorem ext_take (s : ByteArray) (k : Nat) : (s.extract 0 k).data.toList = s.data.toList.take k := by rw [extract_list, List.drop_zero]

theorem ext_drop (s : ByteArray) (k : Nat) : (s.extract k s.size).data.toList = s.data.toList.drop k := by rw [extract_list, List.take_of_length_le (by rw [size_data]; exact Nat.le_refl _)]

theorem valD_app (a b : List UInt8) : valD 10 (a ++ b) = valD 10 a * 10 ^ b.length + valD 10 b := by
  unfold valD
  rw [List.foldl_append, valD_fold]
  rfl

theorem rvalSnoc (s : ByteArray) (k : Nat) (h : k < s.size) : valD 10 (s.data.toList.take (k + 1)) = valD 10 (s.data.toList.take k) * 10 + (hexI s[k].toNat).toNat := by
  rw [take_snoc s k h, valD_app]
  have e : valD 10 [s[k]] = (hexI s[k].toNat).toNat := by
    show 0 * 10 + (hexI s[k].toNat).toNat = _
    rw [Nat.zero_mul, Nat.zero_add]
  rw [e]
  simp

theorem valD_pre (s : ByteArray) (k : Nat) : valD 10 (s.data.toList.take k) ≤ valD 10 s.data.toList := by
  conv => rhs; rw [← List.take_append_drop k s.data.toList]
  rw [valD_app]
  have h1 : 1 ≤ 10 ^ (s.data.toList.drop k).length := Nat.one_le_pow _ _ (by decide)
  have h2 := Nat.mul_le_mul_left (valD 10 (s.data.toList.take k)) h1
  omega

theorem rallAt {s : ByteArray} (h : allD 10 s.data.toList = true) (k : Nat) (hk : k < s.size) : 48 ≤ s[k].toNat ∧ s[k].toNat ≤ 57 := by
  rw [allD_dig, List.all_eq_true] at h
  have hm : s[k] ∈ s.data.toList := by rw [Array.mem_toList_iff]; exact Array.getElem_mem _
  have := isDig_bd (h _ hm)
  omega

def LastI (s : ByteArray) (k : Nat) (A : Int) : Prop := (A = -1 ∧ (64 : UInt8) ∉ s.data.toList.take k) ∨ (∃ j : Nat, A = j ∧ j < k ∧ s.data.toList[j]? = some 64 ∧ (64 : UInt8) ∉ (s.data.toList.take k).drop (j + 1))

theorem last_hit {s : ByteArray} {k : Nat} (h : k < s.size) (hc : s[k] = 64) : LastI s (k + 1) k :=
  .inr ⟨k, rfl, by omega, by rw [Lib.data_getElem? s k h, hc], by rw [List.drop_of_length_le (by rw [List.length_take]; omega)]; simp⟩

theorem last_miss {s : ByteArray} {k : Nat} {A : Int} (hI : LastI s k A) (h : k < s.size) (hc : s[k] ≠ 64) : LastI s (k + 1) A := by
  rcases hI with ⟨h1, h2⟩ | ⟨j, h1, h2, h3, h4⟩
  · refine .inl ⟨h1, ?_⟩
    rw [take_snoc s k h]
    intro hm
    rcases List.mem_append.1 hm with hm | hm
    · exact h2 hm
    · exact hc (List.mem_singleton.1 hm).symm
  · refine .inr ⟨j, h1, by omega, h3, ?_⟩
    rw [take_snoc s k h, List.drop_append_of_le_length (by rw [List.length_take, size_data]; omega)]
    intro hm
    rcases List.mem_append.1 hm with hm | hm
    · exact h4 hm
    · exact hc (List.mem_singleton.1 hm).symm

theorem last_end {s : ByteArray} {A : Int} (hI : LastI s s.size A) : (A = -1 ∧ lastAtL s.data.toList = none) ∨ (∃ j : Nat, A = j ∧ j < s.size ∧ lastAtL s.data.toList = some (s.data.toList.take j, s.data.toList.drop (j + 1))) := by
  have hf : s.data.toList.take s.size = s.data.toList := List.take_of_length_le (by rw [size_data]; exact Nat.le_refl _)
  rcases hI with ⟨h1, h2⟩ | ⟨j, h1, h2, h3, h4⟩
  · rw [hf] at h2
    exact .inl ⟨h1, lastAt_none h2⟩
  · rw [hf] at h4
    refine .inr ⟨j, h1, h2, ?_⟩
    obtain ⟨hl, hx⟩ := List.getElem?_eq_some_iff.1 h3
    have e : s.data.toList = s.data.toList.take j ++ 64 :: s.data.toList.drop (j + 1) := by
      conv => lhs; rw [← List.take_append_drop j s.data.toList, List.drop_eq_getElem_cons hl, hx]
    conv => lhs; rw [e]
    exact lastAt_some _ h4

def RAutV (w w' : World) (g : Nat) (u : UrlM) (e : Ending) : Option AutM → Prop
  | none => e = .returned (.bool false) ∧ Kept (fun k => k = g) w w'
  | some a => e = .returned (.bool true) ∧ Rw w' 0 g 31 (urlCells { u with usr := a.usr, pas := a.pas, hos := a.hos, prt := a.prt }) ∧ Kept (fun k => k = g) w w'

set_option maxHeartbeats 8000000 in
theorem rauth_any {w : World} {g : Nat} {u : UrlM} (hu1 : u.usr = []) (hu2 : u.pas = []) (s : ByteArray) (hs : s.size ≤ 65536) (h : Rw w 0 g 31 (urlCells u)) :
    Calls Tryz.prog 82 #[.pointer (some ⟨g, 0, none⟩), .string s] w fun e w' => RAutV w w' g u e (authP u.sch s.data.toList) := by
  have HRW := Lib.hid h
  have HKP := Lib.hid (kept_refl (fun k => k = g) w)
  obtain ⟨S, hS⟩ : ∃ S : ByteArray, S = ⟨u.sch.toArray⟩ := ⟨_, rfl⟩
  have HSS := Lib.hid hS
  clear hS
  clear h
  go_enter Tryz.func82, Tryz.ntmps82
  go_wp2_with fail
  go_loop [5, 6] (fun a i => ∃ (k : Nat) (A : Int), i = .int .i64 k ∧ a = .int .i64 A ∧ k ≤ s.size ∧ Hid (LastI s k A)) (fun _ i => s.size - (intOf i).toNat)
  case atStart => exact ⟨0, -1, rfl, rfl, Nat.zero_le _, Lib.hid (.inl ⟨rfl, by simp⟩)⟩
  case round =>
    obtain ⟨k, A, rfl, rfl, hk, HI⟩ := hrel
    by_cases hlt : k < s.size
    · by_cases h64 : s[k] = 64
      · have q : ((s[k].toNat : Int) == 64) = true := by rw [h64]; rfl
        have HI2 : Hid (LastI s (k + 1) k) := Lib.hid (last_hit hlt h64)
        clear h64
        go_wp2_with fail
        go_round
        case rel => exact ⟨k + 1, k, by go_num, rfl, by omega, HI2⟩
        case measure => first | (simp [intOf]; done) | (simp [intOf]; omega)
      · have q : ((s[k].toNat : Int) == 64) = false := by
          rw [beq_eq_false_iff_ne]
          intro hh
          exact h64 (UInt8.toNat_inj.1 (by show s[k].toNat = 64; omega))
        have HI2 : Hid (LastI s (k + 1) A) := Lib.hid (last_miss HI.out hlt h64)
        clear h64
        go_wp2_with fail
        go_round
        case rel => exact ⟨k + 1, A, by go_num, rfl, by omega, HI2⟩
        case measure => first | (simp [intOf]; done) | (simp [intOf]; omega)
    · obtain rfl : k = s.size := by omega
      rcases last_end HI.out with ⟨rfl, hl⟩ | ⟨j, rfl, hj, hl⟩
      · have HA : Hid (authP u.sch s.data.toList = (placeP u.sch s.data.toList).map fun x => ⟨u.usr, u.pas, x.1, x.2⟩) := Lib.hid (by unfold authP; rw [hl, hu1, hu2])
        clear hl HI hu1 hu2
        have hts : s.size ≤ 65536 := hs
        obtain ⟨K, hK⟩ : ∃ K, K = (upL [58] s.data.toList).length := ⟨_, rfl⟩
        obtain ⟨e1, e2⟩ := up_take [58] s.data.toList
        rw [← hK] at e1 e2
        have hKl : K ≤ s.size := by
          have := up_len [58] s.data.toList
          rw [← hK, size_data] at this
          exact this
        have HUT : Hid (∀ W, Calls Tryz.prog 81 #[.string s, .string ⟨#[58]⟩] W fun e w' => e = .returned (.int .i64 K) ∧ w' = W) := Lib.hid (fun W => by rw [hK]; exact rupto_any s ⟨#[58]⟩ (by omega) (by decide) W)
        have hx0 : (s.extract 0 K).size ≤ 65536 := by rw [← size_data, ext_take, List.length_take, size_data]; omega
        have HHO := Lib.hid (fun W => rhost_any (s.extract 0 K) (by omega) W)
        rw [ext_take, e1] at HHO
        have hKi : (K : Int) ≤ (s.size : Int) := by omega
        cases hh : hostP (upL [58] s.data.toList) with
        | none =>
          rw [hh] at HHO
          have HN : Hid (authP u.sch s.data.toList = none) := Lib.hid (by rw [HA.out]; unfold placeP; rw [hh]; rfl)
          have HH2 : Hid (∀ W, Calls Tryz.prog 105 #[.string (s.extract 0 K)] W fun e w' => e = .returned (.tuple #[.string ⟨#[]⟩, .int .i64 8]) ∧ Below W.heap.size W w') := HHO
          clear hh e1 e2 hK hx0 HHO
          go_wp2_with fail
          refine (HUT.out _).mono ?_
          rintro e w5 ⟨rfl, rfl⟩
          go_wp2_with fail
          refine (HH2.out _).mono ?_
          rintro e w6 ⟨rfl, hb6⟩
          have HKE := Lib.hid (kept_trans HKP.out (kept_below hb6))
          clear hb6
          go_wp2_with fail
          go_ret
          rw [HN.out]
          exact ⟨rfl, HKE.out⟩
        | some hn =>
          rw [hh] at HHO
          obtain ⟨hb0, hhb⟩ : ∃ hb0 : ByteArray, hb0 = ⟨hn.toArray⟩ := ⟨_, rfl⟩
          have HH2 : Hid (∀ W, Calls Tryz.prog 105 #[.string (s.extract 0 K)] W fun e w' => e = .returned (.tuple #[.string hb0, .int .i64 0]) ∧ Below W.heap.size W w') := Lib.hid (by rw [hhb]; exact HHO.out)
          have HHV : Hid (Value.string hb0 = strL hn) := Lib.hid (by rw [hhb]; rfl)
          have HAP : Hid (∀ o, portP u.sch ((fromL [58] s.data.toList).drop 1) = o → authP u.sch s.data.toList = o.map fun p => ⟨u.usr, u.pas, hn, p⟩) := Lib.hid (fun o ho => by
            rw [HA.out]
            unfold placeP
            rw [hh, ho]
            cases o <;> rfl)
          clear hh hK hx0 HHO hhb
          by_cases hKe : K = s.size
          · have hkz : ((K : Int) == (s.size : Int)) = true := beq_iff_eq.2 (by omega)
            have HPO : Hid (authP u.sch s.data.toList = some ⟨u.usr, u.pas, hn, -1⟩) := Lib.hid (HAP.out (some (-1)) (by
              have e3 : s.data.toList.drop K = [] := List.drop_of_length_le (by rw [size_data]; omega)
              rw [← e2, e3]
              rfl))
            clear e1 e2 HAP hKe
            go_wp2_with fail
            refine (HUT.out _).mono ?_
            rintro e w5 ⟨rfl, rfl⟩
            go_wp2_with fail
            refine (HH2.out _).mono ?_
            rintro e w6 ⟨rfl, hb6⟩
            have HK6 := Lib.hid (kept_trans HKP.out (kept_below hb6))
            have HR6 := Lib.hid (Rw.below HRW.out hb6)
            clear hb6
            have c0 : w6.cell? ⟨g, 0, none⟩ = some (.string S) := by rw [HSS.out]; exact Rw.cell HR6.out (j := 0) rfl
            have c3 := Rw.cell HR6.out (j := 3) rfl
            have c4 := Rw.cell HR6.out (j := 4) rfl
            have f3 := Rw.free HR6.out 3
            have f4 := Rw.free HR6.out 4
            go_wp2_with fail
            go_ret
            rw [HPO.out]
            refine ⟨rfl, ?_, kept_put (kept_put HK6.out (.inl rfl) 3 _) (.inl rfl) 4 _⟩
            have hr := Rw.stored (Rw.stored HR6.out 3 (.string hb0)) 4 (.int .i64 (-1))
            rw [HHV.out] at hr ⊢
            exact hr
          · have hkz : ((K : Int) == (s.size : Int)) = false := beq_eq_false_iff_ne.2 (by omega)
            have hK1 : (K : Int) + 1 ≤ (s.size : Int) := by omega
            have hK0 : (0 : Int) ≤ (K : Int) + 1 := by omega
            obtain ⟨p, hp⟩ : ∃ p : ByteArray, p = s.extract (K + 1) s.size := ⟨_, rfl⟩
            have HPX : Hid (s.extract (K + 1) s.size = p) := Lib.hid hp.symm
            have hpl : p.data.toList = (fromL [58] s.data.toList).drop 1 := by rw [hp, ext_drop, ← e2, List.drop_drop]
            have hps : p.size ≤ 65536 := by rw [← size_data, hp, ext_drop, List.length_drop, size_data]; omega
            rw [← hpl] at HAP
            clear e1 e2 hp hpl hKe
            by_cases hp0 : p.size = 0
            · have y : (s.extract (K + 1) s.size).toList.isEmpty = true := by rw [HPX.out]; exact emptyYes hp0
              have HPO : Hid (authP u.sch s.data.toList = some ⟨u.usr, u.pas, hn, -1⟩) := Lib.hid (HAP.out (some (-1)) (by rw [nil_size hp0]; rfl))
              clear HAP hp0
              go_wp2_with fail
              refine (HUT.out _).mono ?_
              rintro e w5 ⟨rfl, rfl⟩
              go_wp2_with fail
              refine (HH2.out _).mono ?_
              rintro e w6 ⟨rfl, hb6⟩
              have HK6 := Lib.hid (kept_trans HKP.out (kept_below hb6))
              have HR6 := Lib.hid (Rw.below HRW.out hb6)
              clear hb6
              have c0 : w6.cell? ⟨g, 0, none⟩ = some (.string S) := by rw [HSS.out]; exact Rw.cell HR6.out (j := 0) rfl
              have c3 := Rw.cell HR6.out (j := 3) rfl
              have c4 := Rw.cell HR6.out (j := 4) rfl
              have f3 := Rw.free HR6.out 3
              have f4 := Rw.free HR6.out 4
              go_wp2_with fail
              go_ret
              rw [HPO.out]
              refine ⟨rfl, ?_, kept_put (kept_put HK6.out (.inl rfl) 3 _) (.inl rfl) 4 _⟩
              have hr := Rw.stored (Rw.stored HR6.out 3 (.string hb0)) 4 (.int .i64 (-1))
              rw [HHV.out] at hr ⊢
              exact hr
            · have y : (s.extract (K + 1) s.size).toList.isEmpty = false := by rw [HPX.out]; exact emptyNo hp0
              have hpn : p.data.toList ≠ [] := fun h => hp0 (by rw [← size_data, h]; rfl)
              have HDG := Lib.hid (fun W => rdigits_any p 10 (by decide) (by omega) W)
              cases hd : allD 10 p.data.toList
              · have HDG2 : Hid (∀ W, Calls Tryz.prog 106 #[.string p, .int .i64 10] W fun e w' => e = .returned (.bool false) ∧ w' = W) := Lib.hid (fun W => by
                  have h := HDG.out W
                  have e : digP ((10 : Nat) : Int) p.data.toList = false := by
                    show (decide (p.data.toList ≠ []) && allD 10 p.data.toList) = false
                    rw [hd, Bool.and_false]
                  rw [e] at h
                  exact h)
                have HPO : Hid (authP u.sch s.data.toList = none) := Lib.hid (HAP.out none (by unfold portP; rw [if_neg hpn, if_neg (by rw [hd]; simp)]))
                clear HAP hp0 hpn hd HDG
                go_wp2_with fail
                refine (HUT.out _).mono ?_
                rintro e w5 ⟨rfl, rfl⟩
                go_wp2_with fail
                refine (HH2.out _).mono ?_
                rintro e w6 ⟨rfl, hb6⟩
                have HK6 := Lib.hid (kept_trans HKP.out (kept_below hb6))
                have HR6 := Lib.hid (Rw.below HRW.out hb6)
                clear hb6
                have c0 : w6.cell? ⟨g, 0, none⟩ = some (.string S) := by rw [HSS.out]; exact Rw.cell HR6.out (j := 0) rfl
                have c3 := Rw.cell HR6.out (j := 3) rfl
                have c4 := Rw.cell HR6.out (j := 4) rfl
                have f3 := Rw.free HR6.out 3
                have f4 := Rw.free HR6.out 4
                go_wp2_with fail
                rw [HPX.out]
                refine (HDG2.out _).mono ?_
                rintro e w7 ⟨rfl, rfl⟩
                go_wp2_with fail
                go_ret
                rw [HPO.out]
                exact ⟨rfl, kept_put (kept_put HK6.out (.inl rfl) 3 _) (.inl rfl) 4 _⟩
              · have HDG2 : Hid (∀ W, Calls Tryz.prog 106 #[.string p, .int .i64 10] W fun e w' => e = .returned (.bool true) ∧ w' = W) := Lib.hid (fun W => by
                  have h := HDG.out W
                  have e : digP ((10 : Nat) : Int) p.data.toList = true := by
                    show (decide (p.data.toList ≠ []) && allD 10 p.data.toList) = true
                    rw [hd, decide_eq_true hpn]
                    rfl
                  rw [e] at h
                  exact h)
                have HALL := Lib.hid (fun k hk => rallAt hd k hk)
                have HPV : Hid (portP u.sch p.data.toList = if valD 10 p.data.toList ≤ 65535 then some (if ((valD 10 p.data.toList : Nat) : Int) = (defP u.sch).1 then -1 else ((valD 10 p.data.toList : Nat) : Int)) else none) := Lib.hid (by
                  unfold portP
                  rw [if_neg hpn]
                  by_cases hv : valD 10 p.data.toList ≤ 65535
                  · rw [if_pos ⟨hd, hv⟩, if_pos hv]
                  · rw [if_neg (fun h => hv h.2), if_neg hv])
                clear hp0 hpn hd HDG
                go_wp2_with fail
                refine (HUT.out _).mono ?_
                rintro e w5 ⟨rfl, rfl⟩
                go_wp2_with fail
                refine (HH2.out _).mono ?_
                rintro e w6 ⟨rfl, hb6⟩
                have HK6 := Lib.hid (kept_trans HKP.out (kept_below hb6))
                have HR6 := Lib.hid (Rw.below HRW.out hb6)
                clear hb6
                have c0 : w6.cell? ⟨g, 0, none⟩ = some (.string S) := by rw [HSS.out]; exact Rw.cell HR6.out (j := 0) rfl
                have c3 := Rw.cell HR6.out (j := 3) rfl
                have c4 := Rw.cell HR6.out (j := 4) rfl
                have f3 := Rw.free HR6.out 3
                have f4 := Rw.free HR6.out 4
                go_wp2_with fail
                rw [HPX.out]
                refine (HDG2.out _).mono ?_
                rintro e w7 ⟨rfl, rfl⟩
                go_wp2_with fail
                go_loop [13, 14] (fun n i => ∃ k : Nat, i = .int .i64 k ∧ k ≤ p.size ∧ n = .int .i64 ((valD 10 (p.data.toList.take k) : Nat) : Int) ∧ valD 10 (p.data.toList.take k) ≤ 65535) (fun _ i => p.size - (intOf i).toNat)
                case atStart => exact ⟨0, rfl, Nat.zero_le _, rfl, by rw [List.take_zero]; decide⟩
                case round =>
                  obtain ⟨k, rfl, hk, rfl, hv⟩ := hrel
                  by_cases hlt : k < p.size
                  · obtain ⟨d1, d2⟩ := HALL.out k hlt
                    have hsn := rvalSnoc p k hlt
                    obtain ⟨V, hV⟩ : ∃ V, V = valD 10 (p.data.toList.take k) := ⟨_, rfl⟩
                    obtain ⟨V2, hV2⟩ : ∃ V2, V2 = valD 10 (p.data.toList.take (k + 1)) := ⟨_, rfl⟩
                    have hx : (hexI p[k].toNat).toNat = p[k].toNat - 48 := by
                      unfold hexI
                      rw [if_pos (by omega)]
                      omega
                    rw [hx, ← hV2, ← hV] at hsn
                    have hle := valD_pre p (k + 1)
                    rw [← hV2] at hle
                    rw [← hV] at hv ⊢
                    have hc48 : (48 : Int) ≤ (p[k].toNat : Int) := by omega
                    have hc57 : (p[k].toNat : Int) ≤ 57 := by omega
                    have hVe : (10 : Int) * (V : Int) + ((p[k].toNat : Int) - 48) = (V2 : Int) := by omega
                    by_cases hb : V2 ≤ 65535
                    · have hbi : ¬ (65535 : Int) < (V2 : Int) := by omega
                      have HREL : Hid (V2 = valD 10 (p.data.toList.take (k + 1)) ∧ V2 ≤ 65535) := Lib.hid ⟨hV2, hb⟩
                      clear hV hV2 hx hsn hle d1 d2 hb
                      go_wp2_with fail
                      go_round
                      case rel => exact ⟨k + 1, by go_num, by omega, by rw [← HREL.out.1, ← hVe]; try rfl, by rw [← HREL.out.1]; exact HREL.out.2⟩
                      case measure => first | (simp [intOf]; done) | (simp [intOf]; omega)
                    · have hbi : (65535 : Int) < (V2 : Int) := by omega
                      have HPO : Hid (authP u.sch s.data.toList = none) := Lib.hid (HAP.out none (by rw [HPV.out, if_neg (by omega)]))
                      clear hV hV2 hx hsn hle d1 d2 hb
                      go_wp2_with fail
                      go_ret
                      rw [HPO.out]
                      exact ⟨rfl, kept_put (kept_put HK6.out (.inl rfl) 3 _) (.inl rfl) 4 _⟩
                  · have hfk : p.data.toList.take k = p.data.toList := List.take_of_length_le (by rw [size_data]; omega)
                    rw [hfk] at hv ⊢
                    have HPO : Hid (authP u.sch s.data.toList = some ⟨u.usr, u.pas, hn, if ((valD 10 p.data.toList : Nat) : Int) = (defP u.sch).1 then -1 else ((valD 10 p.data.toList : Nat) : Int)⟩) := Lib.hid (HAP.out (some _) (by rw [HPV.out, if_pos hv]))
                    obtain ⟨V, hV⟩ : ∃ V, V = ((valD 10 p.data.toList : Nat) : Int) := ⟨_, rfl⟩
                    rw [← hV] at HPO ⊢
                    have HDF := Lib.hid (fun W => rdef_any S W)
                    have hSl : S.data.toList = u.sch := by rw [HSS.out]
                    rw [hSl] at HDF
                    obtain ⟨D, hD⟩ : ∃ D, D = (defP u.sch).1 := ⟨_, rfl⟩
                    rw [← hD] at HPO HDF
                    clear hV hD hfk hSl hv
                    by_cases hVD : V = D
                    · have q : (V != D) = false := by rw [hVD]; simp
                      rw [if_pos hVD] at HPO
                      clear hVD
                      go_wp2_with fail
                      refine (HDF.out _).mono ?_
                      rintro e w8 ⟨rfl, rfl⟩
                      go_wp2_with fail
                      go_ret
                      rw [HPO.out]
                      refine ⟨rfl, ?_, kept_put (kept_put HK6.out (.inl rfl) 3 _) (.inl rfl) 4 _⟩
                      have hr := Rw.stored (Rw.stored HR6.out 3 (.string hb0)) 4 (.int .i64 (-1))
                      rw [HHV.out] at hr ⊢
                      exact hr
                    · have q : (V != D) = true := by simp [hVD]
                      rw [if_neg hVD] at HPO
                      clear hVD
                      go_wp2_with fail
                      refine (HDF.out _).mono ?_
                      rintro e w8 ⟨rfl, rfl⟩
                      go_wp2_with fail
                      go_ret
                      rw [HPO.out]
                      refine ⟨rfl, ?_, kept_put (kept_put (kept_put HK6.out (.inl rfl) 3 _) (.inl rfl) 4 _) (.inl rfl) 4 _⟩
                      have hr := Rw.stored (Rw.stored (Rw.stored HR6.out 3 (.string hb0)) 4 (.int .i64 (-1))) 4 (.int .i64 V)
                      rw [HHV.out] at hr ⊢
                      exact hr

      · obtain ⟨a, ha⟩ : ∃ a : ByteArray, a = s.extract 0 j := ⟨_, rfl⟩
        obtain ⟨t, ht⟩ : ∃ t : ByteArray, t = s.extract (j + 1) s.size := ⟨_, rfl⟩
        have HAX : Hid (s.extract 0 j = a) := Lib.hid ha.symm
        have HTX : Hid (s.extract (j + 1) s.size = t) := Lib.hid ht.symm
        have hal : a.data.toList = s.data.toList.take j := by rw [ha, ext_take]
        have htl : t.data.toList = s.data.toList.drop (j + 1) := by rw [ht, ext_drop]
        have has : a.size ≤ 65536 := by rw [← size_data, hal, List.length_take, size_data]; omega
        have hts : t.size ≤ 65536 := by rw [← size_data, htl, List.length_drop, size_data]; omega
        rw [← hal, ← htl] at hl
        obtain ⟨eul, heul⟩ : ∃ x, x = encL 4 (upL [58] a.data.toList) := ⟨_, rfl⟩
        obtain ⟨epl, hepl⟩ : ∃ x, x = encL 4 ((fromL [58] a.data.toList).drop 1) := ⟨_, rfl⟩
        have HA : Hid (authP u.sch s.data.toList = (placeP u.sch t.data.toList).map fun x => ⟨eul, epl, x.1, x.2⟩) := Lib.hid (by
          unfold authP
          rw [hl, heul, hepl]
          rfl)
        obtain ⟨KA, hKA⟩ : ∃ KA, KA = (upL [58] a.data.toList).length := ⟨_, rfl⟩
        obtain ⟨d1, d2⟩ := up_take [58] a.data.toList
        rw [← hKA] at d1 d2
        have hKAl : KA ≤ a.size := by
          have := up_len [58] a.data.toList
          rw [← hKA, size_data] at this
          exact this
        have HUA : Hid (∀ W, Calls Tryz.prog 81 #[.string a, .string ⟨#[58]⟩] W fun e w' => e = .returned (.int .i64 KA) ∧ w' = W) := Lib.hid (fun W => by rw [hKA]; exact rupto_any a ⟨#[58]⟩ (by omega) (by decide) W)
        have hax0 : (a.extract 0 KA).size ≤ 65536 := by rw [← size_data, ext_take, List.length_take, size_data]; omega
        obtain ⟨eu, heu⟩ : ∃ eu : ByteArray, eu = ⟨eul.toArray⟩ := ⟨_, rfl⟩
        have HEU : Hid (∀ W, Calls Tryz.prog 83 #[.string (a.extract 0 KA), .int .i64 4] W fun e w' => e = .returned (.string eu) ∧ Below W.heap.size W w') := Lib.hid (fun W => by
          have h := ref_encode_any (a.extract 0 KA) (by omega) 4 W
          rw [ext_take, d1, ← heul, ← heu] at h
          exact h)
        have HEUV : Hid (Value.string eu = strL eul) := Lib.hid (by rw [heu]; rfl)
        have hKAi : (KA : Int) ≤ (a.size : Int) := by omega
        have hj0 : (0 : Int) ≤ (j : Int) := by omega
        have hji : (j : Int) ≤ (s.size : Int) := by omega
        have hj1 : (j : Int) + 1 ≤ (s.size : Int) := by omega
        have hj2 : (0 : Int) ≤ (j : Int) + 1 := by omega
        have HPAS := Lib.hid hu2
        clear ha ht hl hal htl hKA heul heu hax0 hu1 hu2 HI
        by_cases hKe2 : KA < a.size
        · have hKAlt : (KA : Int) < (a.size : Int) := by omega
          have hKA1 : (KA : Int) + 1 ≤ (a.size : Int) := by omega
          have hKA2 : (0 : Int) ≤ (KA : Int) + 1 := by omega
          have hax1 : (a.extract (KA + 1) a.size).size ≤ 65536 := by rw [← size_data, ext_drop, List.length_drop, size_data]; omega
          obtain ⟨ep, hep⟩ : ∃ ep : ByteArray, ep = ⟨epl.toArray⟩ := ⟨_, rfl⟩
          have HEP : Hid (∀ W, Calls Tryz.prog 83 #[.string (a.extract (KA + 1) a.size), .int .i64 4] W fun e w' => e = .returned (.string ep) ∧ Below W.heap.size W w') := Lib.hid (fun W => by
            have h := ref_encode_any (a.extract (KA + 1) a.size) (by omega) 4 W
            have e3 : (a.data.toList.drop (KA + 1)) = (fromL [58] a.data.toList).drop 1 := by rw [← d2, List.drop_drop]
            rw [ext_drop, e3, ← hepl, ← hep] at h
            exact h)
          have HEPV : Hid (Value.string ep = strL epl) := Lib.hid (by rw [hep]; rfl)
          clear hepl hep hax1 hKe2 d1 d2
          go_wp2_with fail
          rw [HAX.out, HTX.out]
          refine (HUA.out _).mono ?_
          rintro e w1 ⟨rfl, rfl⟩
          go_wp2_with fail
          refine (HEU.out _).mono ?_
          rintro e w2 ⟨rfl, hb2⟩
          have HK2 := Lib.hid (kept_trans HKP.out (kept_below hb2))
          have HR2 := Lib.hid (Rw.below HRW.out hb2)
          clear hb2
          have c1 := Rw.cell HR2.out (j := 1) rfl
          have f1 := Rw.free HR2.out 1
          go_wp2_with fail
          refine (HEP.out _).mono ?_
          rintro e w3 ⟨rfl, hb3⟩
          have HK3 := Lib.hid (kept_trans (kept_put HK2.out (.inl rfl) 1 _) (kept_below hb3))
          have HR3 := Lib.hid (Rw.below (Rw.stored HR2.out 1 _) hb3)
          clear hb3 c1 f1
          have c2 := Rw.cell HR3.out (j := 2) rfl
          have f2 := Rw.free HR3.out 2
          go_wp2_with fail
          have HKP := Lib.hid (kept_put HK3.out (.inl rfl) 2 (.string ep))
          have HRW : Hid (Rw (w3.setCell ⟨g, 2, none⟩ (.string ep)) 0 g 31 (urlCells { u with usr := eul, pas := epl })) := Lib.hid (by
            have hr := Rw.stored HR3.out 2 (.string ep)
            rw [HEUV.out, HEPV.out] at hr
            rw [HEPV.out]
            exact hr)
          clear HK2 HR2 HK3 HR3 c2 f2
          obtain ⟨K, hK⟩ : ∃ K, K = (upL [58] t.data.toList).length := ⟨_, rfl⟩
          obtain ⟨e1, e2⟩ := up_take [58] t.data.toList
          rw [← hK] at e1 e2
          have hKl : K ≤ t.size := by
            have := up_len [58] t.data.toList
            rw [← hK, size_data] at this
            exact this
          have HUT : Hid (∀ W, Calls Tryz.prog 81 #[.string t, .string ⟨#[58]⟩] W fun e w' => e = .returned (.int .i64 K) ∧ w' = W) := Lib.hid (fun W => by rw [hK]; exact rupto_any t ⟨#[58]⟩ (by omega) (by decide) W)
          have hx0 : (t.extract 0 K).size ≤ 65536 := by rw [← size_data, ext_take, List.length_take, size_data]; omega
          have HHO := Lib.hid (fun W => rhost_any (t.extract 0 K) (by omega) W)
          rw [ext_take, e1] at HHO
          have hKi : (K : Int) ≤ (t.size : Int) := by omega
          cases hh : hostP (upL [58] t.data.toList) with
          | none =>
            rw [hh] at HHO
            have HN : Hid (authP u.sch s.data.toList = none) := Lib.hid (by rw [HA.out]; unfold placeP; rw [hh]; rfl)
            have HH2 : Hid (∀ W, Calls Tryz.prog 105 #[.string (t.extract 0 K)] W fun e w' => e = .returned (.tuple #[.string ⟨#[]⟩, .int .i64 8]) ∧ Below W.heap.size W w') := HHO
            clear hh e1 e2 hK hx0 HHO
            skip
            refine (HUT.out _).mono ?_
            rintro e w5 ⟨rfl, rfl⟩
            go_wp2_with fail
            refine (HH2.out _).mono ?_
            rintro e w6 ⟨rfl, hb6⟩
            have HKE := Lib.hid (kept_trans HKP.out (kept_below hb6))
            clear hb6
            go_wp2_with fail
            go_ret
            rw [HN.out]
            exact ⟨rfl, HKE.out⟩
          | some hn =>
            rw [hh] at HHO
            obtain ⟨hb0, hhb⟩ : ∃ hb0 : ByteArray, hb0 = ⟨hn.toArray⟩ := ⟨_, rfl⟩
            have HH2 : Hid (∀ W, Calls Tryz.prog 105 #[.string (t.extract 0 K)] W fun e w' => e = .returned (.tuple #[.string hb0, .int .i64 0]) ∧ Below W.heap.size W w') := Lib.hid (by rw [hhb]; exact HHO.out)
            have HHV : Hid (Value.string hb0 = strL hn) := Lib.hid (by rw [hhb]; rfl)
            have HAP : Hid (∀ o, portP u.sch ((fromL [58] t.data.toList).drop 1) = o → authP u.sch s.data.toList = o.map fun p => ⟨eul, epl, hn, p⟩) := Lib.hid (fun o ho => by
              rw [HA.out]
              unfold placeP
              rw [hh, ho]
              cases o <;> rfl)
            clear hh hK hx0 HHO hhb
            by_cases hKe : K = t.size
            · have hkz : ((K : Int) == (t.size : Int)) = true := beq_iff_eq.2 (by omega)
              have HPO : Hid (authP u.sch s.data.toList = some ⟨eul, epl, hn, -1⟩) := Lib.hid (HAP.out (some (-1)) (by
                have e3 : t.data.toList.drop K = [] := List.drop_of_length_le (by rw [size_data]; omega)
                rw [← e2, e3]
                rfl))
              clear e1 e2 HAP hKe
              skip
              refine (HUT.out _).mono ?_
              rintro e w5 ⟨rfl, rfl⟩
              go_wp2_with fail
              refine (HH2.out _).mono ?_
              rintro e w6 ⟨rfl, hb6⟩
              have HK6 := Lib.hid (kept_trans HKP.out (kept_below hb6))
              have HR6 := Lib.hid (Rw.below HRW.out hb6)
              clear hb6
              have c0 : w6.cell? ⟨g, 0, none⟩ = some (.string S) := by rw [HSS.out]; exact Rw.cell HR6.out (j := 0) rfl
              have c3 := Rw.cell HR6.out (j := 3) rfl
              have c4 := Rw.cell HR6.out (j := 4) rfl
              have f3 := Rw.free HR6.out 3
              have f4 := Rw.free HR6.out 4
              go_wp2_with fail
              go_ret
              rw [HPO.out]
              refine ⟨rfl, ?_, kept_put (kept_put HK6.out (.inl rfl) 3 _) (.inl rfl) 4 _⟩
              have hr := Rw.stored (Rw.stored HR6.out 3 (.string hb0)) 4 (.int .i64 (-1))
              rw [HHV.out] at hr ⊢
              exact hr
            · have hkz : ((K : Int) == (t.size : Int)) = false := beq_eq_false_iff_ne.2 (by omega)
              have hK1 : (K : Int) + 1 ≤ (t.size : Int) := by omega
              have hK0 : (0 : Int) ≤ (K : Int) + 1 := by omega
              obtain ⟨p, hp⟩ : ∃ p : ByteArray, p = t.extract (K + 1) t.size := ⟨_, rfl⟩
              have HPX : Hid (t.extract (K + 1) t.size = p) := Lib.hid hp.symm
              have hpl : p.data.toList = (fromL [58] t.data.toList).drop 1 := by rw [hp, ext_drop, ← e2, List.drop_drop]
              have hps : p.size ≤ 65536 := by rw [← size_data, hp, ext_drop, List.length_drop, size_data]; omega
              rw [← hpl] at HAP
              clear e1 e2 hp hpl hKe
              by_cases hp0 : p.size = 0
              · have y : (t.extract (K + 1) t.size).toList.isEmpty = true := by rw [HPX.out]; exact emptyYes hp0
                have HPO : Hid (authP u.sch s.data.toList = some ⟨eul, epl, hn, -1⟩) := Lib.hid (HAP.out (some (-1)) (by rw [nil_size hp0]; rfl))
                clear HAP hp0
                skip
                refine (HUT.out _).mono ?_
                rintro e w5 ⟨rfl, rfl⟩
                go_wp2_with fail
                refine (HH2.out _).mono ?_
                rintro e w6 ⟨rfl, hb6⟩
                have HK6 := Lib.hid (kept_trans HKP.out (kept_below hb6))
                have HR6 := Lib.hid (Rw.below HRW.out hb6)
                clear hb6
                have c0 : w6.cell? ⟨g, 0, none⟩ = some (.string S) := by rw [HSS.out]; exact Rw.cell HR6.out (j := 0) rfl
                have c3 := Rw.cell HR6.out (j := 3) rfl
                have c4 := Rw.cell HR6.out (j := 4) rfl
                have f3 := Rw.free HR6.out 3
                have f4 := Rw.free HR6.out 4
                go_wp2_with fail
                go_ret
                rw [HPO.out]
                refine ⟨rfl, ?_, kept_put (kept_put HK6.out (.inl rfl) 3 _) (.inl rfl) 4 _⟩
                have hr := Rw.stored (Rw.stored HR6.out 3 (.string hb0)) 4 (.int .i64 (-1))
                rw [HHV.out] at hr ⊢
                exact hr
              · have y : (t.extract (K + 1) t.size).toList.isEmpty = false := by rw [HPX.out]; exact emptyNo hp0
                have hpn : p.data.toList ≠ [] := fun h => hp0 (by rw [← size_data, h]; rfl)
                have HDG := Lib.hid (fun W => rdigits_any p 10 (by decide) (by omega) W)
                cases hd : allD 10 p.data.toList
                · have HDG2 : Hid (∀ W, Calls Tryz.prog 106 #[.string p, .int .i64 10] W fun e w' => e = .returned (.bool false) ∧ w' = W) := Lib.hid (fun W => by
                    have h := HDG.out W
                    have e : digP ((10 : Nat) : Int) p.data.toList = false := by
                      show (decide (p.data.toList ≠ []) && allD 10 p.data.toList) = false
                      rw [hd, Bool.and_false]
                    rw [e] at h
                    exact h)
                  have HPO : Hid (authP u.sch s.data.toList = none) := Lib.hid (HAP.out none (by unfold portP; rw [if_neg hpn, if_neg (by rw [hd]; simp)]))
                  clear HAP hp0 hpn hd HDG
                  skip
                  refine (HUT.out _).mono ?_
                  rintro e w5 ⟨rfl, rfl⟩
                  go_wp2_with fail
                  refine (HH2.out _).mono ?_
                  rintro e w6 ⟨rfl, hb6⟩
                  have HK6 := Lib.hid (kept_trans HKP.out (kept_below hb6))
                  have HR6 := Lib.hid (Rw.below HRW.out hb6)
                  clear hb6
                  have c0 : w6.cell? ⟨g, 0, none⟩ = some (.string S) := by rw [HSS.out]; exact Rw.cell HR6.out (j := 0) rfl
                  have c3 := Rw.cell HR6.out (j := 3) rfl
                  have c4 := Rw.cell HR6.out (j := 4) rfl
                  have f3 := Rw.free HR6.out 3
                  have f4 := Rw.free HR6.out 4
                  go_wp2_with fail
                  rw [HPX.out]
                  refine (HDG2.out _).mono ?_
                  rintro e w7 ⟨rfl, rfl⟩
                  go_wp2_with fail
                  go_ret
                  rw [HPO.out]
                  exact ⟨rfl, kept_put (kept_put HK6.out (.inl rfl) 3 _) (.inl rfl) 4 _⟩
                · have HDG2 : Hid (∀ W, Calls Tryz.prog 106 #[.string p, .int .i64 10] W fun e w' => e = .returned (.bool true) ∧ w' = W) := Lib.hid (fun W => by
                    have h := HDG.out W
                    have e : digP ((10 : Nat) : Int) p.data.toList = true := by
                      show (decide (p.data.toList ≠ []) && allD 10 p.data.toList) = true
                      rw [hd, decide_eq_true hpn]
                      rfl
                    rw [e] at h
                    exact h)
                  have HALL := Lib.hid (fun k hk => rallAt hd k hk)
                  have HPV : Hid (portP u.sch p.data.toList = if valD 10 p.data.toList ≤ 65535 then some (if ((valD 10 p.data.toList : Nat) : Int) = (defP u.sch).1 then -1 else ((valD 10 p.data.toList : Nat) : Int)) else none) := Lib.hid (by
                    unfold portP
                    rw [if_neg hpn]
                    by_cases hv : valD 10 p.data.toList ≤ 65535
                    · rw [if_pos ⟨hd, hv⟩, if_pos hv]
                    · rw [if_neg (fun h => hv h.2), if_neg hv])
                  clear hp0 hpn hd HDG
                  skip
                  refine (HUT.out _).mono ?_
                  rintro e w5 ⟨rfl, rfl⟩
                  go_wp2_with fail
                  refine (HH2.out _).mono ?_
                  rintro e w6 ⟨rfl, hb6⟩
                  have HK6 := Lib.hid (kept_trans HKP.out (kept_below hb6))
                  have HR6 := Lib.hid (Rw.below HRW.out hb6)
                  clear hb6
                  have c0 : w6.cell? ⟨g, 0, none⟩ = some (.string S) := by rw [HSS.out]; exact Rw.cell HR6.out (j := 0) rfl
                  have c3 := Rw.cell HR6.out (j := 3) rfl
                  have c4 := Rw.cell HR6.out (j := 4) rfl
                  have f3 := Rw.free HR6.out 3
                  have f4 := Rw.free HR6.out 4
                  go_wp2_with fail
                  rw [HPX.out]
                  refine (HDG2.out _).mono ?_
                  rintro e w7 ⟨rfl, rfl⟩
                  go_wp2_with fail
                  go_loop [13, 14] (fun n i => ∃ k : Nat, i = .int .i64 k ∧ k ≤ p.size ∧ n = .int .i64 ((valD 10 (p.data.toList.take k) : Nat) : Int) ∧ valD 10 (p.data.toList.take k) ≤ 65535) (fun _ i => p.size - (intOf i).toNat)
                  case atStart => exact ⟨0, rfl, Nat.zero_le _, rfl, by rw [List.take_zero]; decide⟩
                  case round =>
                    obtain ⟨k, rfl, hk, rfl, hv⟩ := hrel
                    by_cases hlt : k < p.size
                    · obtain ⟨d1, d2⟩ := HALL.out k hlt
                      have hsn := rvalSnoc p k hlt
                      obtain ⟨V, hV⟩ : ∃ V, V = valD 10 (p.data.toList.take k) := ⟨_, rfl⟩
                      obtain ⟨V2, hV2⟩ : ∃ V2, V2 = valD 10 (p.data.toList.take (k + 1)) := ⟨_, rfl⟩
                      have hx : (hexI p[k].toNat).toNat = p[k].toNat - 48 := by
                        unfold hexI
                        rw [if_pos (by omega)]
                        omega
                      rw [hx, ← hV2, ← hV] at hsn
                      have hle := valD_pre p (k + 1)
                      rw [← hV2] at hle
                      rw [← hV] at hv ⊢
                      have hc48 : (48 : Int) ≤ (p[k].toNat : Int) := by omega
                      have hc57 : (p[k].toNat : Int) ≤ 57 := by omega
                      have hVe : (10 : Int) * (V : Int) + ((p[k].toNat : Int) - 48) = (V2 : Int) := by omega
                      by_cases hb : V2 ≤ 65535
                      · have hbi : ¬ (65535 : Int) < (V2 : Int) := by omega
                        have HREL : Hid (V2 = valD 10 (p.data.toList.take (k + 1)) ∧ V2 ≤ 65535) := Lib.hid ⟨hV2, hb⟩
                        clear hV hV2 hx hsn hle d1 d2 hb
                        go_wp2_with fail
                        go_round
                        case rel => exact ⟨k + 1, by go_num, by omega, by rw [← HREL.out.1, ← hVe]; try rfl, by rw [← HREL.out.1]; exact HREL.out.2⟩
                        case measure => first | (simp [intOf]; done) | (simp [intOf]; omega)
                      · have hbi : (65535 : Int) < (V2 : Int) := by omega
                        have HPO : Hid (authP u.sch s.data.toList = none) := Lib.hid (HAP.out none (by rw [HPV.out, if_neg (by omega)]))
                        clear hV hV2 hx hsn hle d1 d2 hb
                        go_wp2_with fail
                        go_ret
                        rw [HPO.out]
                        exact ⟨rfl, kept_put (kept_put HK6.out (.inl rfl) 3 _) (.inl rfl) 4 _⟩
                    · have hfk : p.data.toList.take k = p.data.toList := List.take_of_length_le (by rw [size_data]; omega)
                      rw [hfk] at hv ⊢
                      have HPO : Hid (authP u.sch s.data.toList = some ⟨eul, epl, hn, if ((valD 10 p.data.toList : Nat) : Int) = (defP u.sch).1 then -1 else ((valD 10 p.data.toList : Nat) : Int)⟩) := Lib.hid (HAP.out (some _) (by rw [HPV.out, if_pos hv]))
                      obtain ⟨V, hV⟩ : ∃ V, V = ((valD 10 p.data.toList : Nat) : Int) := ⟨_, rfl⟩
                      rw [← hV] at HPO ⊢
                      have HDF := Lib.hid (fun W => rdef_any S W)
                      have hSl : S.data.toList = u.sch := by rw [HSS.out]
                      rw [hSl] at HDF
                      obtain ⟨D, hD⟩ : ∃ D, D = (defP u.sch).1 := ⟨_, rfl⟩
                      rw [← hD] at HPO HDF
                      clear hV hD hfk hSl hv
                      by_cases hVD : V = D
                      · have q : (V != D) = false := by rw [hVD]; simp
                        rw [if_pos hVD] at HPO
                        clear hVD
                        go_wp2_with fail
                        refine (HDF.out _).mono ?_
                        rintro e w8 ⟨rfl, rfl⟩
                        go_wp2_with fail
                        go_ret
                        rw [HPO.out]
                        refine ⟨rfl, ?_, kept_put (kept_put HK6.out (.inl rfl) 3 _) (.inl rfl) 4 _⟩
                        have hr := Rw.stored (Rw.stored HR6.out 3 (.string hb0)) 4 (.int .i64 (-1))
                        rw [HHV.out] at hr ⊢
                        exact hr
                      · have q : (V != D) = true := by simp [hVD]
                        rw [if_neg hVD] at HPO
                        clear hVD
                        go_wp2_with fail
                        refine (HDF.out _).mono ?_
                        rintro e w8 ⟨rfl, rfl⟩
                        go_wp2_with fail
                        go_ret
                        rw [HPO.out]
                        refine ⟨rfl, ?_, kept_put (kept_put (kept_put HK6.out (.inl rfl) 3 _) (.inl rfl) 4 _) (.inl rfl) 4 _⟩
                        have hr := Rw.stored (Rw.stored (Rw.stored HR6.out 3 (.string hb0)) 4 (.int .i64 (-1))) 4 (.int .i64 V)
                        rw [HHV.out] at hr ⊢
                        exact hr

        · have hKAlt : ¬ (KA : Int) < (a.size : Int) := by omega
          have hpe : epl = [] := by
            have e3 : fromL [58] a.data.toList = [] := by rw [← d2]; exact List.drop_of_length_le (by rw [size_data]; omega)
            rw [hepl, e3]
            rfl
          have hpu : epl = u.pas := by rw [hpe, HPAS.out]
          clear hepl hKe2 d1 d2 hpe
          go_wp2_with fail
          rw [HAX.out, HTX.out]
          refine (HUA.out _).mono ?_
          rintro e w1 ⟨rfl, rfl⟩
          go_wp2_with fail
          refine (HEU.out _).mono ?_
          rintro e w2 ⟨rfl, hb2⟩
          have HK2 := Lib.hid (kept_trans HKP.out (kept_below hb2))
          have HR2 := Lib.hid (Rw.below HRW.out hb2)
          clear hb2
          have c1 := Rw.cell HR2.out (j := 1) rfl
          have f1 := Rw.free HR2.out 1
          go_wp2_with fail
          have HKP := Lib.hid (kept_put HK2.out (.inl rfl) 1 (.string eu))
          have HRW : Hid (Rw (w2.setCell ⟨g, 1, none⟩ (.string eu)) 0 g 31 (urlCells { u with usr := eul, pas := epl })) := Lib.hid (by
            have hr := Rw.stored HR2.out 1 (.string eu)
            rw [HEUV.out] at hr ⊢
            rw [hpu]
            exact hr)
          clear HK2 HR2 c1 f1 hpu
          obtain ⟨K, hK⟩ : ∃ K, K = (upL [58] t.data.toList).length := ⟨_, rfl⟩
          obtain ⟨e1, e2⟩ := up_take [58] t.data.toList
          rw [← hK] at e1 e2
          have hKl : K ≤ t.size := by
            have := up_len [58] t.data.toList
            rw [← hK, size_data] at this
            exact this
          have HUT : Hid (∀ W, Calls Tryz.prog 81 #[.string t, .string ⟨#[58]⟩] W fun e w' => e = .returned (.int .i64 K) ∧ w' = W) := Lib.hid (fun W => by rw [hK]; exact rupto_any t ⟨#[58]⟩ (by omega) (by decide) W)
          have hx0 : (t.extract 0 K).size ≤ 65536 := by rw [← size_data, ext_take, List.length_take, size_data]; omega
          have HHO := Lib.hid (fun W => rhost_any (t.extract 0 K) (by omega) W)
          rw [ext_take, e1] at HHO
          have hKi : (K : Int) ≤ (t.size : Int) := by omega
          cases hh : hostP (upL [58] t.data.toList) with
          | none =>
            rw [hh] at HHO
            have HN : Hid (authP u.sch s.data.toList = none) := Lib.hid (by rw [HA.out]; unfold placeP; rw [hh]; rfl)
            have HH2 : Hid (∀ W, Calls Tryz.prog 105 #[.string (t.extract 0 K)] W fun e w' => e = .returned (.tuple #[.string ⟨#[]⟩, .int .i64 8]) ∧ Below W.heap.size W w') := HHO
            clear hh e1 e2 hK hx0 HHO
            skip
            refine (HUT.out _).mono ?_
            rintro e w5 ⟨rfl, rfl⟩
            go_wp2_with fail
            refine (HH2.out _).mono ?_
            rintro e w6 ⟨rfl, hb6⟩
            have HKE := Lib.hid (kept_trans HKP.out (kept_below hb6))
            clear hb6
            go_wp2_with fail
            go_ret
            rw [HN.out]
            exact ⟨rfl, HKE.out⟩
          | some hn =>
            rw [hh] at HHO
            obtain ⟨hb0, hhb⟩ : ∃ hb0 : ByteArray, hb0 = ⟨hn.toArray⟩ := ⟨_, rfl⟩
            have HH2 : Hid (∀ W, Calls Tryz.prog 105 #[.string (t.extract 0 K)] W fun e w' => e = .returned (.tuple #[.string hb0, .int .i64 0]) ∧ Below W.heap.size W w') := Lib.hid (by rw [hhb]; exact HHO.out)
            have HHV : Hid (Value.string hb0 = strL hn) := Lib.hid (by rw [hhb]; rfl)
            have HAP : Hid (∀ o, portP u.sch ((fromL [58] t.data.toList).drop 1) = o → authP u.sch s.data.toList = o.map fun p => ⟨eul, epl, hn, p⟩) := Lib.hid (fun o ho => by
              rw [HA.out]
              unfold placeP
              rw [hh, ho]
              cases o <;> rfl)
            clear hh hK hx0 HHO hhb
            by_cases hKe : K = t.size
            · have hkz : ((K : Int) == (t.size : Int)) = true := beq_iff_eq.2 (by omega)
              have HPO : Hid (authP u.sch s.data.toList = some ⟨eul, epl, hn, -1⟩) := Lib.hid (HAP.out (some (-1)) (by
                have e3 : t.data.toList.drop K = [] := List.drop_of_length_le (by rw [size_data]; omega)
                rw [← e2, e3]
                rfl))
              clear e1 e2 HAP hKe
              skip
              refine (HUT.out _).mono ?_
              rintro e w5 ⟨rfl, rfl⟩
              go_wp2_with fail
              refine (HH2.out _).mono ?_
              rintro e w6 ⟨rfl, hb6⟩
              have HK6 := Lib.hid (kept_trans HKP.out (kept_below hb6))
              have HR6 := Lib.hid (Rw.below HRW.out hb6)
              clear hb6
              have c0 : w6.cell? ⟨g, 0, none⟩ = some (.string S) := by rw [HSS.out]; exact Rw.cell HR6.out (j := 0) rfl
              have c3 := Rw.cell HR6.out (j := 3) rfl
              have c4 := Rw.cell HR6.out (j := 4) rfl
              have f3 := Rw.free HR6.out 3
              have f4 := Rw.free HR6.out 4
              go_wp2_with fail
              go_ret
              rw [HPO.out]
              refine ⟨rfl, ?_, kept_put (kept_put HK6.out (.inl rfl) 3 _) (.inl rfl) 4 _⟩
              have hr := Rw.stored (Rw.stored HR6.out 3 (.string hb0)) 4 (.int .i64 (-1))
              rw [HHV.out] at hr ⊢
              exact hr
            · have hkz : ((K : Int) == (t.size : Int)) = false := beq_eq_false_iff_ne.2 (by omega)
              have hK1 : (K : Int) + 1 ≤ (t.size : Int) := by omega
              have hK0 : (0 : Int) ≤ (K : Int) + 1 := by omega
              obtain ⟨p, hp⟩ : ∃ p : ByteArray, p = t.extract (K + 1) t.size := ⟨_, rfl⟩
              have HPX : Hid (t.extract (K + 1) t.size = p) := Lib.hid hp.symm
              have hpl : p.data.toList = (fromL [58] t.data.toList).drop 1 := by rw [hp, ext_drop, ← e2, List.drop_drop]
              have hps : p.size ≤ 65536 := by rw [← size_data, hp, ext_drop, List.length_drop, size_data]; omega
              rw [← hpl] at HAP
              clear e1 e2 hp hpl hKe
              by_cases hp0 : p.size = 0
              · have y : (t.extract (K + 1) t.size).toList.isEmpty = true := by rw [HPX.out]; exact emptyYes hp0
                have HPO : Hid (authP u.sch s.data.toList = some ⟨eul, epl, hn, -1⟩) := Lib.hid (HAP.out (some (-1)) (by rw [nil_size hp0]; rfl))
                clear HAP hp0
                skip
                refine (HUT.out _).mono ?_
                rintro e w5 ⟨rfl, rfl⟩
                go_wp2_with fail
                refine (HH2.out _).mono ?_
                rintro e w6 ⟨rfl, hb6⟩
                have HK6 := Lib.hid (kept_trans HKP.out (kept_below hb6))
                have HR6 := Lib.hid (Rw.below HRW.out hb6)
                clear hb6
                have c0 : w6.cell? ⟨g, 0, none⟩ = some (.string S) := by rw [HSS.out]; exact Rw.cell HR6.out (j := 0) rfl
                have c3 := Rw.cell HR6.out (j := 3) rfl
                have c4 := Rw.cell HR6.out (j := 4) rfl
                have f3 := Rw.free HR6.out 3
                have f4 := Rw.free HR6.out 4
                go_wp2_with fail
                go_ret
                rw [HPO.out]
                refine ⟨rfl, ?_, kept_put (kept_put HK6.out (.inl rfl) 3 _) (.inl rfl) 4 _⟩
                have hr := Rw.stored (Rw.stored HR6.out 3 (.string hb0)) 4 (.int .i64 (-1))
                rw [HHV.out] at hr ⊢
                exact hr
              · have y : (t.extract (K + 1) t.size).toList.isEmpty = false := by rw [HPX.out]; exact emptyNo hp0
                have hpn : p.data.toList ≠ [] := fun h => hp0 (by rw [← size_data, h]; rfl)
                have HDG := Lib.hid (fun W => rdigits_any p 10 (by decide) (by omega) W)
                cases hd : allD 10 p.data.toList
                · have HDG2 : Hid (∀ W, Calls Tryz.prog 106 #[.string p, .int .i64 10] W fun e w' => e = .returned (.bool false) ∧ w' = W) := Lib.hid (fun W => by
                    have h := HDG.out W
                    have e : digP ((10 : Nat) : Int) p.data.toList = false := by
                      show (decide (p.data.toList ≠ []) && allD 10 p.data.toList) = false
                      rw [hd, Bool.and_false]
                    rw [e] at h
                    exact h)
                  have HPO : Hid (authP u.sch s.data.toList = none) := Lib.hid (HAP.out none (by unfold portP; rw [if_neg hpn, if_neg (by rw [hd]; simp)]))
                  clear HAP hp0 hpn hd HDG
                  skip
                  refine (HUT.out _).mono ?_
                  rintro e w5 ⟨rfl, rfl⟩
                  go_wp2_with fail
                  refine (HH2.out _).mono ?_
                  rintro e w6 ⟨rfl, hb6⟩
                  have HK6 := Lib.hid (kept_trans HKP.out (kept_below hb6))
                  have HR6 := Lib.hid (Rw.below HRW.out hb6)
                  clear hb6
                  have c0 : w6.cell? ⟨g, 0, none⟩ = some (.string S) := by rw [HSS.out]; exact Rw.cell HR6.out (j := 0) rfl
                  have c3 := Rw.cell HR6.out (j := 3) rfl
                  have c4 := Rw.cell HR6.out (j := 4) rfl
                  have f3 := Rw.free HR6.out 3
                  have f4 := Rw.free HR6.out 4
                  go_wp2_with fail
                  rw [HPX.out]
                  refine (HDG2.out _).mono ?_
                  rintro e w7 ⟨rfl, rfl⟩
                  go_wp2_with fail
                  go_ret
                  rw [HPO.out]
                  exact ⟨rfl, kept_put (kept_put HK6.out (.inl rfl) 3 _) (.inl rfl) 4 _⟩
                · have HDG2 : Hid (∀ W, Calls Tryz.prog 106 #[.string p, .int .i64 10] W fun e w' => e = .returned (.bool true) ∧ w' = W) := Lib.hid (fun W => by
                    have h := HDG.out W
                    have e : digP ((10 : Nat) : Int) p.data.toList = true := by
                      show (decide (p.data.toList ≠ []) && allD 10 p.data.toList) = true
                      rw [hd, decide_eq_true hpn]
                      rfl
                    rw [e] at h
                    exact h)
                  have HALL := Lib.hid (fun k hk => rallAt hd k hk)
                  have HPV : Hid (portP u.sch p.data.toList = if valD 10 p.data.toList ≤ 65535 then some (if ((valD 10 p.data.toList : Nat) : Int) = (defP u.sch).1 then -1 else ((valD 10 p.data.toList : Nat) : Int)) else none) := Lib.hid (by
                    unfold portP
                    rw [if_neg hpn]
                    by_cases hv : valD 10 p.data.toList ≤ 65535
                    · rw [if_pos ⟨hd, hv⟩, if_pos hv]
                    · rw [if_neg (fun h => hv h.2), if_neg hv])
                  clear hp0 hpn hd HDG
                  skip
                  refine (HUT.out _).mono ?_
                  rintro e w5 ⟨rfl, rfl⟩
                  go_wp2_with fail
                  refine (HH2.out _).mono ?_
                  rintro e w6 ⟨rfl, hb6⟩
                  have HK6 := Lib.hid (kept_trans HKP.out (kept_below hb6))
                  have HR6 := Lib.hid (Rw.below HRW.out hb6)
                  clear hb6
                  have c0 : w6.cell? ⟨g, 0, none⟩ = some (.string S) := by rw [HSS.out]; exact Rw.cell HR6.out (j := 0) rfl
                  have c3 := Rw.cell HR6.out (j := 3) rfl
                  have c4 := Rw.cell HR6.out (j := 4) rfl
                  have f3 := Rw.free HR6.out 3
                  have f4 := Rw.free HR6.out 4
                  go_wp2_with fail
                  rw [HPX.out]
                  refine (HDG2.out _).mono ?_
                  rintro e w7 ⟨rfl, rfl⟩
                  go_wp2_with fail
                  go_loop [13, 14] (fun n i => ∃ k : Nat, i = .int .i64 k ∧ k ≤ p.size ∧ n = .int .i64 ((valD 10 (p.data.toList.take k) : Nat) : Int) ∧ valD 10 (p.data.toList.take k) ≤ 65535) (fun _ i => p.size - (intOf i).toNat)
                  case atStart => exact ⟨0, rfl, Nat.zero_le _, rfl, by rw [List.take_zero]; decide⟩
                  case round =>
                    obtain ⟨k, rfl, hk, rfl, hv⟩ := hrel
                    by_cases hlt : k < p.size
                    · obtain ⟨d1, d2⟩ := HALL.out k hlt
                      have hsn := rvalSnoc p k hlt
                      obtain ⟨V, hV⟩ : ∃ V, V = valD 10 (p.data.toList.take k) := ⟨_, rfl⟩
                      obtain ⟨V2, hV2⟩ : ∃ V2, V2 = valD 10 (p.data.toList.take (k + 1)) := ⟨_, rfl⟩
                      have hx : (hexI p[k].toNat).toNat = p[k].toNat - 48 := by
                        unfold hexI
                        rw [if_pos (by omega)]
                        omega
                      rw [hx, ← hV2, ← hV] at hsn
                      have hle := valD_pre p (k + 1)
                      rw [← hV2] at hle
                      rw [← hV] at hv ⊢
                      have hc48 : (48 : Int) ≤ (p[k].toNat : Int) := by omega
                      have hc57 : (p[k].toNat : Int) ≤ 57 := by omega
                      have hVe : (10 : Int) * (V : Int) + ((p[k].toNat : Int) - 48) = (V2 : Int) := by omega
                      by_cases hb : V2 ≤ 65535
                      · have hbi : ¬ (65535 : Int) < (V2 : Int) := by omega
                        have HREL : Hid (V2 = valD 10 (p.data.toList.take (k + 1)) ∧ V2 ≤ 65535) := Lib.hid ⟨hV2, hb⟩
                        clear hV hV2 hx hsn hle d1 d2 hb
                        go_wp2_with fail
                        go_round
                        case rel => exact ⟨k + 1, by go_num, by omega, by rw [← HREL.out.1, ← hVe]; try rfl, by rw [← HREL.out.1]; exact HREL.out.2⟩
                        case measure => first | (simp [intOf]; done) | (simp [intOf]; omega)
                      · have hbi : (65535 : Int) < (V2 : Int) := by omega
                        have HPO : Hid (authP u.sch s.data.toList = none) := Lib.hid (HAP.out none (by rw [HPV.out, if_neg (by omega)]))
                        clear hV hV2 hx hsn hle d1 d2 hb
                        go_wp2_with fail
                        go_ret
                        rw [HPO.out]
                        exact ⟨rfl, kept_put (kept_put HK6.out (.inl rfl) 3 _) (.inl rfl) 4 _⟩
                    · have hfk : p.data.toList.take k = p.data.toList := List.take_of_length_le (by rw [size_data]; omega)
                      rw [hfk] at hv ⊢
                      have HPO : Hid (authP u.sch s.data.toList = some ⟨eul, epl, hn, if ((valD 10 p.data.toList : Nat) : Int) = (defP u.sch).1 then -1 else ((valD 10 p.data.toList : Nat) : Int)⟩) := Lib.hid (HAP.out (some _) (by rw [HPV.out, if_pos hv]))
                      obtain ⟨V, hV⟩ : ∃ V, V = ((valD 10 p.data.toList : Nat) : Int) := ⟨_, rfl⟩
                      rw [← hV] at HPO ⊢
                      have HDF := Lib.hid (fun W => rdef_any S W)
                      have hSl : S.data.toList = u.sch := by rw [HSS.out]
                      rw [hSl] at HDF
                      obtain ⟨D, hD⟩ : ∃ D, D = (defP u.sch).1 := ⟨_, rfl⟩
                      rw [← hD] at HPO HDF
                      clear hV hD hfk hSl hv
                      by_cases hVD : V = D
                      · have q : (V != D) = false := by rw [hVD]; simp
                        rw [if_pos hVD] at HPO
                        clear hVD
                        go_wp2_with fail
                        refine (HDF.out _).mono ?_
                        rintro e w8 ⟨rfl, rfl⟩
                        go_wp2_with fail
                        go_ret
                        rw [HPO.out]
                        refine ⟨rfl, ?_, kept_put (kept_put HK6.out (.inl rfl) 3 _) (.inl rfl) 4 _⟩
                        have hr := Rw.stored (Rw.stored HR6.out 3 (.string hb0)) 4 (.int .i64 (-1))
                        rw [HHV.out] at hr ⊢
                        exact hr
                      · have q : (V != D) = true := by simp [hVD]
                        rw [if_neg hVD] at HPO
                        clear hVD
                        go_wp2_with fail
                        refine (HDF.out _).mono ?_
                        rintro e w8 ⟨rfl, rfl⟩
                        go_wp2_with fail
                        go_ret
                        rw [HPO.out]
                        refine ⟨rfl, ?_, kept_put (kept_put (kept_put HK6.out (.inl rfl) 3 _) (.inl rfl) 4 _) (.inl rfl) 4 _⟩
                        have hr := Rw.stored (Rw.stored (Rw.stored HR6.out 3 (.string hb0)) 4 (.int .i64 (-1))) 4 (.int .i64 V)
                        rw [HHV.out] at hr ⊢
                        exact hr

end Go.Proofs.YtnecjofgjbfheaaGreatDoor
