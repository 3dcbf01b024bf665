/- Contracts: membership in a list of texts; the sum of lengths; what the document fixes. -/
import Derived.Test.YtfbimjfgklldaaaAsc6
namespace Go.Proofs.Ytfbimjfgklldaaa
open Go.RowKit Go.Proofs

/-- Is the text among those? -/
def hasS (zs : List ByteArray) (x : ByteArray) : Bool := Lib.containsS zs x
theorem hasS_iff (zs : List ByteArray) (x : ByteArray) : hasS zs x = true ↔ x ∈ zs := Lib.containsS_iff zs x
theorem hasS_nil (x : ByteArray) : hasS [] x = false := by
  cases h : hasS [] x
  · rfl
  · rw [hasS_iff] at h; cases h

theorem strs_getD {w : World} {b off : Nat} {zs : List ByteArray} (hc : ∀ (j : Nat) (x : Value), (zs.map strV)[j]? = some x → w.cell? ⟨b, off + j, none⟩ = some x) :
    ∀ j, j < zs.length → w.cell? ⟨b, off + j, none⟩ = some (.string (zs.getD j ByteArray.empty)) := by
  intro j hj
  refine hc j _ ?_
  rw [List.getElem?_map, List.getElem?_eq_getElem hj]
  simp [strV, List.getD, List.getElem?_eq_getElem hj]

theorem contains_str_any (v : Value) (zs : List ByteArray) (x : ByteArray) (w : World) (hl : zs.length ≤ 1073741824) (hv : SliceAt w v (zs.map strV)) :
    Calls Try.prog 37 #[v, .string x] w fun e w' => e = .returned (.bool (hasS zs x)) ∧ w' = w := by
  by_cases hne : zs = []
  · subst hne
    obtain ⟨a, c, rfl⟩ := hv.empty
    rw [hasS_nil]
    exact Try.slices_Contains_string_empty a c x w
  · obtain ⟨b, off, c, rfl, hc⟩ := hv.at (by simpa using hne)
    have h := Try.slices_Contains_string b off zs.length c zs x w (Nat.le_refl _) (by omega) (strs_getD hc)
    rw [List.take_of_length_le (Nat.le_refl _)] at h
    rw [List.length_map]
    exact h

theorem oneOf_str_any (v : Value) (zs : List ByteArray) (x : ByteArray) (w : World) (hl : zs.length ≤ 1073741824) (hv : SliceAt w v (zs.map strV)) :
    Calls Try.prog 29 #[.string x, v] w fun e w' => e = .returned (.bool (hasS zs x)) ∧ w' = w := by
  go_enter Try.func29, Try.ntmps29
  go_wp2_with fail
  refine (contains_str_any v zs x w hl hv).mono ?_
  rintro e w' ⟨rfl, rfl⟩
  go_wp2
  go_ret
  exact ⟨rfl, rfl⟩

theorem any_any (v : Value) (zs : List ByteArray) (x : ByteArray) (w : World) (hl : zs.length ≤ 1073741824) (hv : SliceAt w v (zs.map strV)) :
    Calls Try.prog 16 #[.string x, v] w fun e w' => e = .returned (.bool (hasS zs x)) ∧ w' = w := by
  go_enter Try.func16, Try.ntmps16
  go_wp2_with fail
  refine (oneOf_str_any v zs x w hl hv).mono ?_
  rintro e w' ⟨rfl, rfl⟩
  go_wp2
  go_ret
  exact ⟨rfl, rfl⟩

theorem toList_inj {a b : ByteArray} : (a.toList = b.toList) ↔ a = b := by
  rw [ByteArray.toList_eq, ByteArray.toList_eq]
  constructor
  · intro h
    have := mk_list a h
    rw [this]
  · intro h; rw [h]

theorem in_any (v : Value) (zs : List ByteArray) (x : ByteArray) (w : World) (hl : zs.length ≤ 1073741824) (hv : SliceAt w v (zs.map strV)) :
    Calls Try.prog 17 #[.string x, v] w fun e w' => e = .returned (.bool (hasS zs x)) ∧ w' = w := by
  by_cases hne : zs = []
  · subst hne
    obtain ⟨a, cp, rfl⟩ := hv.empty
    go_enter Try.func17, Try.ntmps17
    go_wp2
    refine wp_loop_rounds 1 ?_
    rw [rounds_succ]
    go_wp2
    go_ret
    exact ⟨ret_bool (hasS_nil x).symm, rfl⟩
  · obtain ⟨b, off, cp, rfl, hc⟩ := hv.at (by simpa using hne)
    rw [List.length_map]
    have HC := Lib.hid hc
    clear hc hv
    go_enter Try.func17, Try.ntmps17
    go_wp2
    go_loop [5] (fun i => ∃ k : Nat, k ≤ zs.length ∧ i = .int .i64 k ∧ x ∉ zs.take k) (fun i => zs.length - (intOf i).toNat)
    case atStart => exact ⟨0, Nat.zero_le _, rfl, by simp⟩
    case round =>
      obtain ⟨k, hk, rfl, hno⟩ := hrel
      have HN := Lib.hid hno
      clear hno
      by_cases hlt : k < zs.length
      · obtain ⟨d, hd⟩ : ∃ d, zs[k]? = some d := ⟨_, List.getElem?_eq_getElem hlt⟩
        have hcell := HC.out k (.string d) (by rw [List.getElem?_map, hd]; rfl)
        by_cases hq : d = x
        · have hq0 : (d.toList == x.toList) = true := by rw [hq]; exact beq_iff_eq.2 rfl
          have HF : Hid (hasS zs x = true) := Lib.hid ((hasS_iff zs x).2 (by rw [← hq]; exact List.mem_of_getElem? hd))
          clear hq hd
          go_wp2
          go_ret
          exact ⟨ret_bool HF.out.symm, rfl⟩
        · have hq0 : (d.toList == x.toList) = false := beq_eq_false_iff_ne.2 fun e => hq (toList_inj.1 e)
          have HF : Hid (x ∉ zs.take (k + 1)) := Lib.hid (by
            rw [take_succ_of hd]
            intro h
            rcases List.mem_append.1 h with h | h
            · exact HN.out h
            · exact hq (List.mem_singleton.1 h).symm)
          clear hq hd
          go_wp2
          go_round
          case rel => exact ⟨k + 1, by omega, by go_num, HF.out⟩
          case measure => simp [intOf]; omega
      · have hfin := HN.out
        rw [List.take_of_length_le (by omega)] at hfin
        have HF : Hid (hasS zs x = false) := Lib.hid (by
          cases h : hasS zs x
          · rfl
          · exact absurd ((hasS_iff zs x).1 h) hfin)
        clear hfin
        go_wp2
        go_ret
        exact ⟨ret_bool HF.out.symm, rfl⟩

/-- The sum of lengths, as far as it goes: if it is at most the bound, so are the list's length and each text's. -/
theorem total_any (v : Value) (zs : List ByteArray) (m : Int) (w : World) (hm : 0 ≤ m ∧ m ≤ 1073741824) (hl : zs.length ≤ 281474976710656) (hz : ∀ z ∈ zs, z.size ≤ 281474976710656) (hv : SliceAt w v (zs.map strV)) :
    Calls Try.prog 15 #[v, .int .i64 m] w fun e w' => (∃ r : Int, e = .returned (.int .i64 r) ∧ (zs.length : Int) ≤ r ∧ r ≤ 1125899906842624) ∧ w' = w := by
  by_cases hne : zs = []
  · subst hne
    obtain ⟨a, cp, rfl⟩ := hv.empty
    go_enter Try.func15, Try.ntmps15
    go_wp2
    refine wp_loop_rounds 1 ?_
    rw [rounds_succ]
    go_wp2
    go_ret
    exact ⟨⟨0, rfl, by simp, by decide⟩, rfl⟩
  · obtain ⟨b, off, cp, rfl, hc⟩ := hv.at (by simpa using hne)
    rw [List.length_map]
    have HC := Lib.hid hc
    have HZ := Lib.hid hz
    clear hc hv hz
    go_enter Try.func15, Try.ntmps15
    go_wp2
    go_loop [5, 6] (fun n i => ∃ (k : Nat) (r : Int), k ≤ zs.length ∧ i = .int .i64 k ∧ n = .int .i64 r ∧ (zs.length : Int) ≤ r ∧ r ≤ 1125899906842624) (fun _ i => zs.length - (intOf i).toNat)
    case atStart => exact ⟨0, zs.length, Nat.zero_le _, rfl, rfl, Int.le_refl _, by omega⟩
    case round =>
      obtain ⟨k, r, hk, rfl, rfl, hr1, hr2⟩ := hrel
      by_cases hlt : k < zs.length
      · obtain ⟨d, hd⟩ : ∃ d, zs[k]? = some d := ⟨_, List.getElem?_eq_getElem hlt⟩
        have hcell := HC.out k (.string d) (by rw [List.getElem?_map, hd]; rfl)
        have hds := HZ.out d (List.mem_of_getElem? hd)
        clear hd
        by_cases hrm : r ≤ m
        · go_wp2
          go_round
          case rel => exact ⟨k + 1, r + d.size, by omega, by go_num, by go_num, by omega, by omega⟩
          case measure => simp [intOf]; omega
        · go_wp2
          go_ret
          exact ⟨⟨r, rfl, hr1, hr2⟩, rfl⟩
      · go_wp2
        go_ret
        exact ⟨⟨r, rfl, hr1, hr2⟩, rfl⟩

theorem Try.str3 : [[97], [], [98]].map strL = [Value.string ⟨#[97]⟩, .string ⟨#[]⟩, .string ⟨#[98]⟩] := rfl

theorem awake_any (w : World) : Calls Try.prog 10 #[] w fun e w' => e = .returned (.bool true) ∧ Below w.heap.size w w' := by
  have HS : Hid (splitL [97, 44, 44, 98] 44 = [[97], [], [98]]) := Lib.hid (by decide)
  have HB : Hid (wordsL [9, 97, 32, 32, 98] = [[97], [98]]) := Lib.hid (by decide)
  have HN : Hid (numOk [48, 48, 55] 9 = false) := Lib.hid (by decide)
  go_enter Try.func10, Try.ntmps10
  go_wp2_with fail
  refine (number_any ⟨#[48, 48, 55]⟩ 9 (by decide) (by decide) _).mono ?_
  rw [show numOk (⟨#[48, 48, 55]⟩ : ByteArray).data.toList 9 = false from HN.out]
  rintro e w' ⟨rfl, rfl⟩
  go_wp2_with fail
  refine (split_any ⟨#[97, 44, 44, 98]⟩ 44 (by decide) _).mono ?_
  rw [show splitL (⟨#[97, 44, 44, 98]⟩ : ByteArray).data.toList 44 = [[97], [], [98]] from HS.out]
  rintro e w1 ⟨⟨v1, rfl, hown1⟩, hb1⟩
  go_wp2_with fail
  refine (texts_any v1 _ [[97], [], [98]] [[97], [], [98]] _ (SliceAt.own (hown1.alloc _)) (SliceAt.lit _ _ _ _ _ rfl) (by decide) (by decide)).mono ?_
  rw [show eqLL [[97], [], [98]] [[97], [], [98]] = true from rfl]
  rintro e w2 ⟨rfl, hm2⟩
  have HM2 := Lib.hid hm2
  clear hm2
  go_wp2_with fail
  refine (blanks_any ⟨#[9, 97, 32, 32, 98]⟩ (by decide) _).mono ?_
  rw [show wordsL (⟨#[9, 97, 32, 32, 98]⟩ : ByteArray).data.toList = [[97], [98]] from HB.out]
  rintro e w3 ⟨⟨v3, rfl, hown3⟩, hb3⟩
  go_wp2_with fail
  refine (texts_any v3 _ [[97], [98]] [[97], [98]] _ (SliceAt.own (hown3.alloc _)) (SliceAt.lit _ _ _ _ _ rfl) (by decide) (by decide)).mono ?_
  rw [show eqLL [[97], [98]] [[97], [98]] = true from rfl]
  rintro e w4 ⟨rfl, hm4⟩
  have HM4 := Lib.hid hm4
  clear hm4
  go_wp2
  go_ret
  exact ⟨rfl, below_draws (below_more (below_then (below_draws (below_more hb1 _) HM2.out) hb3) _) HM4.out⟩

end Go.Proofs.Ytfbimjfgklldaaa
