/-
  AsciiWords: what stands between blanks has none, and is all of the text but its blanks; the law returns true for every text, and what was there has not turned. No condition.
-/
import Derived.Test.YtfbimjfgklldaaaAsc7
import Derived.Test.YtfbimjfgklldaaaLaw
namespace Go.Proofs.Ytfbimjfgklldaaa
open Go.ChangeShapes Go.WideShapes Go.ChangeAt Go.RowKit Go.Proofs
open Go.ChangeMaps (open_string shut_string)

def noBl (l : List UInt8) : Prop := ∀ c ∈ l, isBl c = false
theorem wordsGo_good : ∀ (l cur : List UInt8), noBl cur → ∀ x ∈ wordsGo cur l, x ≠ [] ∧ noBl x
  | [], cur, hc, x, hx => by
    rw [wordsGo] at hx
    split at hx
    · cases hx
    · rename_i h
      rw [List.mem_singleton.1 hx]
      exact ⟨h, hc⟩
  | c :: r, cur, hc, x, hx => by
    rw [wordsGo] at hx
    split at hx
    · split at hx
      · exact wordsGo_good r [] (fun _ h => by cases h) x hx
      · rename_i h
        rcases List.mem_cons.1 hx with rfl | hx
        · exact ⟨h, hc⟩
        · exact wordsGo_good r [] (fun _ h => by cases h) x hx
    · rename_i h
      refine wordsGo_good r (cur ++ [c]) (fun d hd => ?_) x hx
      rcases List.mem_append.1 hd with hd | hd
      · exact hc d hd
      · rw [List.mem_singleton.1 hd]; simpa using h
theorem wordsGo_flat : ∀ (l cur : List UInt8), (wordsGo cur l).flatten = cur ++ l.filter (fun c => !isBl c)
  | [], cur => by
    rw [wordsGo]
    split
    · rename_i h; simp [h]
    · simp
  | c :: r, cur => by
    rw [wordsGo]
    split
    · rename_i hb
      rw [List.filter_cons_of_neg (by simp [hb])]
      split
      · rename_i h
        rw [wordsGo_flat r [], h]
      · rw [List.flatten_cons, wordsGo_flat r []]
        rfl
    · rename_i hb
      rw [List.filter_cons_of_pos (by simpa using hb), wordsGo_flat r (cur ++ [c])]
      simp
theorem wordsGo_one : ∀ (x cur : List UInt8), noBl x → cur ++ x ≠ [] → wordsGo cur x = [cur ++ x]
  | [], cur, _, hne => by
    rw [List.append_nil] at hne
    rw [wordsGo, if_neg hne, List.append_nil]
  | c :: r, cur, hx, _ => by
    rw [wordsGo, if_neg (by simp [hx c (by simp)]), wordsGo_one r (cur ++ [c]) (fun d hd => hx d (by simp [hd])) (by simp)]
    simp
theorem words_flat (l : List UInt8) : (wordsL l).flatten = l.filter (fun c => !isBl c) := wordsGo_flat l []
theorem words_good (l x : List UInt8) (h : x ∈ wordsL l) : x ≠ [] ∧ wordsL x = [x] := by
  have := wordsGo_good l [] (fun _ h => by cases h) x h
  exact ⟨this.1, by
    have := wordsGo_one x [] this.2 this.1
    simpa [wordsL] using this⟩
theorem words_pre (l : List UInt8) (k : Nat) : ((wordsL l).take k).flatten.length ≤ l.length := by
  have h1 : (wordsL l).flatten.length ≤ l.length := by rw [words_flat]; exact List.length_filter_le _ _
  have h2 : ((wordsL l).take k).flatten.length ≤ (wordsL l).flatten.length := by
    conv => rhs; rw [← List.take_append_drop k (wordsL l), List.flatten_append]
    simp
  omega
theorem append_list (a b : ByteArray) : (a ++ b).data.toList = a.data.toList ++ b.data.toList := by simp
theorem filter_snoc (s : ByteArray) (k : Nat) (h : k < s.size) (hb : isBl s[k] = false) : (s.data.toList.take (k + 1)).filter (fun c => !isBl c) = (s.data.toList.take k).filter (fun c => !isBl c) ++ [s[k]] := by
  rw [take_snoc s k h, List.filter_append, List.filter_cons_of_pos (by simp [hb])]
  rfl
theorem filter_pass (s : ByteArray) (k : Nat) (h : k < s.size) (hb : isBl s[k] = true) : (s.data.toList.take (k + 1)).filter (fun c => !isBl c) = (s.data.toList.take k).filter (fun c => !isBl c) := by
  rw [take_snoc s k h, List.filter_append, List.filter_cons_of_neg (by simp [hb])]
  simp
theorem one_list (s : ByteArray) (k : Nat) (h : k < s.size) : (s.extract k (k + 1)).data.toList = [s[k]] := by
  rw [extract_list, take_snoc s k h, List.drop_append_of_le_length (by rw [List.length_take, size_data]; omega), List.drop_eq_nil_of_le (by rw [List.length_take]; omega)]
  rfl

theorem asciiWords_any (s : ByteArray) (hs : s.size ≤ 140737488351232) (w : World) :
    Calls Try.prog 8 #[.string s] w fun e w' => e = .returned (.bool true) ∧ Below w.heap.size w w' := by
  by_cases hlong : 3000 < (s.size : Int)
  · go_enter Try.func8, Try.ntmps8
    go_wp2_with fail
    refine (awake_any _).mono ?_
    rintro e w' ⟨rfl, hb1⟩
    go_wp2
    go_ret
    exact ⟨rfl, hb1⟩
  · obtain ⟨ws, hws⟩ : ∃ ws, ws = wordsL s.data.toList := ⟨_, rfl⟩
    have HW := Lib.hid hws
    have hlw : ws.length ≤ 1073741824 := by have := wordsL_len s.data.toList; rw [← hws, size_data] at this; omega
    clear hws
    go_enter Try.func8, Try.ntmps8
    go_wp2_with fail
    refine (blanks_any s (by omega) _).mono ?_
    rw [← HW.out]
    rintro e w1 ⟨⟨v1, rfl, hown1⟩, hb1⟩
    obtain ⟨a1, c1, rfl, hsl⟩ := SliceAt.own hown1
    rw [List.length_map]
    have HSL := Lib.hid hsl
    clear hsl hown1
    go_wp2
    go_loopw [4, 5] (fun t i wr => ∃ (k : Nat) (x : ByteArray), k ≤ ws.length ∧ i = .int .i64 k ∧ t = .string x ∧ x.data.toList = (ws.take k).flatten ∧ Below w1.heap.size w1 wr) (fun _ i _ => ws.length - (intOf i).toNat)
    case atStart => exact ⟨0, ⟨#[]⟩, Nat.zero_le _, rfl, rfl, rfl, Below.refl _ _⟩
    case round =>
      obtain ⟨k, x, hk, rfl, rfl, hx, hb2⟩ := hrel
      have hxs : x.size ≤ 3000 := by
        have := words_pre s.data.toList k
        rw [← HW.out, ← hx, size_data, size_data] at this
        omega
      have HX := Lib.hid hx
      clear hx
      by_cases hlt : k < ws.length
      · obtain ⟨wd, hwd⟩ : ∃ wd, ws[k]? = some wd := ⟨_, List.getElem?_eq_getElem hlt⟩
        rcases HSL.out with hnil | ⟨b, off, rfl, hc⟩
        · exact absurd (show ws.length = 0 by rw [List.map_eq_nil_iff.1 hnil]; rfl) (by omega)
        · have hc1 := hc k (.string ⟨wd.toArray⟩) (by rw [List.getElem?_map, hwd]; rfl)
          have hcell : wr.cell? ⟨b, off + k, none⟩ = some (.string ⟨wd.toArray⟩) := (hb2.cell (block_of_cell hc1)).trans hc1
          have hgood := words_good s.data.toList wd (by rw [← HW.out]; exact List.mem_of_getElem? hwd)
          have hwe : wd.isEmpty = false := by
            cases h : wd.isEmpty
            · rfl
            · exact absurd (List.isEmpty_iff.1 h) hgood.1
          have hnext : Hid ((x ++ ⟨wd.toArray⟩ : ByteArray).data.toList = (ws.take (k + 1)).flatten) := Lib.hid (by
            rw [append_list, HX.out, take_succ_of hwd, List.flatten_append]
            simp)
          have hwsz : (⟨wd.toArray⟩ : ByteArray).size ≤ 3000 := by
            have := words_pre s.data.toList (k + 1)
            rw [← HW.out, ← hnext.out, size_data, size_data, ByteArray.size_append] at this
            omega
          have HG := Lib.hid hgood.2
          clear hgood hc hc1 hwd
          go_wp2_with fail
          refine (blanks_any ⟨wd.toArray⟩ (by omega) _).mono ?_
          rw [show wordsL (⟨wd.toArray⟩ : ByteArray).data.toList = [wd] from HG.out]
          rintro e w3 ⟨⟨v3, rfl, hown3⟩, hb3⟩
          obtain ⟨a3, c3, rfl⟩ := (SliceAt.own hown3).len
          have hcell3 : w3.cell? ⟨b, off + k, none⟩ = some (.string ⟨wd.toArray⟩) := (hb3.cell (block_of_cell hcell)).trans hcell
          go_wp2
          go_roundw
          case rel => exact ⟨k + 1, _, by omega, by go_num, rfl, hnext.out, below_then hb2 hb3⟩
          case measure => simp [intOf]; omega
      · have HT : Hid (x.data.toList = s.data.toList.filter (fun c => !isBl c)) := Lib.hid (by
          rw [HX.out, List.take_of_length_le (by omega), HW.out, words_flat])
        go_wp2
        go_loop [6, 7] (fun u i => ∃ (j : Nat) (y : ByteArray), j ≤ s.size ∧ i = .int .i64 j ∧ u = .string y ∧ y.data.toList = (s.data.toList.take j).filter (fun c => !isBl c)) (fun _ i => s.size - (intOf i).toNat)
        case atStart => exact ⟨0, ⟨#[]⟩, Nat.zero_le _, rfl, rfl, rfl⟩
        case round =>
          obtain ⟨j, y, hj, rfl, rfl, hy⟩ := hrel
          have hys : y.size ≤ 3000 := by
            have := List.length_filter_le (fun c => !isBl c) (s.data.toList.take j)
            rw [← hy, size_data, List.length_take, size_data] at this
            omega
          have HY := Lib.hid hy
          clear hy
          by_cases hjl : j < s.size
          · cases hq : isBl s[j]
            · have hno := mt (isBl_iff s[j]).2 (by simp [hq])
              have h9 : ((s[j].toNat : Int) != 9) = true := bne_iff_ne.2 (by omega)
              have h10 : ((s[j].toNat : Int) != 10) = true := bne_iff_ne.2 (by omega)
              have h12 : ((s[j].toNat : Int) != 12) = true := bne_iff_ne.2 (by omega)
              have h13 : ((s[j].toNat : Int) != 13) = true := bne_iff_ne.2 (by omega)
              have h32 : ((s[j].toNat : Int) != 32) = true := bne_iff_ne.2 (by omega)
              have hnext : Hid ((y ++ s.extract j (j + 1) : ByteArray).data.toList = (s.data.toList.take (j + 1)).filter (fun c => !isBl c)) := Lib.hid (by
                rw [append_list, HY.out, one_list s j hjl, filter_snoc s j hjl hq])
              have hone : (s.extract j (j + 1)).size ≤ 1 := by rw [ByteArray.size_extract]; omega
              clear hq hno
              go_wp2
              go_round
              case rel => exact ⟨j + 1, _, by omega, by go_num, rfl, hnext.out⟩
              case measure => simp [intOf]; omega
            · have hyes := (isBl_iff s[j]).1 hq
              have hnext : Hid (y.data.toList = (s.data.toList.take (j + 1)).filter (fun c => !isBl c)) := Lib.hid (by rw [HY.out, filter_pass s j hjl hq])
              have hcases : ((s[j].toNat : Int) != 9) = false ∨ (((s[j].toNat : Int) != 9) = true ∧ ((s[j].toNat : Int) != 10) = false) ∨ (((s[j].toNat : Int) != 9) = true ∧ ((s[j].toNat : Int) != 10) = true ∧ ((s[j].toNat : Int) != 12) = false) ∨ (((s[j].toNat : Int) != 9) = true ∧ ((s[j].toNat : Int) != 10) = true ∧ ((s[j].toNat : Int) != 12) = true ∧ ((s[j].toNat : Int) != 13) = false) ∨ (((s[j].toNat : Int) != 9) = true ∧ ((s[j].toNat : Int) != 10) = true ∧ ((s[j].toNat : Int) != 12) = true ∧ ((s[j].toNat : Int) != 13) = true ∧ ((s[j].toNat : Int) != 32) = false) := by
                simp only [bne_iff_ne, bne_eq_false_iff_eq]
                omega
              clear hq hyes
              rcases hcases with h9 | ⟨h9, h10⟩ | ⟨h9, h10, h12⟩ | ⟨h9, h10, h12, h13⟩ | ⟨h9, h10, h12, h13, h32⟩
              all_goals
                go_wp2
                go_round
                case rel => exact ⟨j + 1, _, by omega, by go_num, rfl, hnext.out⟩
                case measure => simp [intOf]; omega
          · have heq : (x.toList == y.toList) = true := by
              rw [ByteArray.toList_eq, ByteArray.toList_eq, HT.out, HY.out, List.take_of_length_le (by rw [size_data]; omega)]
              exact beq_iff_eq.2 rfl
            go_wp2_with fail
            refine (awake_any _).mono ?_
            rintro e w7 ⟨rfl, hb7⟩
            go_wp2
            go_ret
            exact ⟨rfl, below_then (below_then hb1 hb2) hb7⟩

theorem asciiWords_own : ownKnob Try.prog.godebug = none := by kernel_rfl
set_option maxRecDepth 100000 in
theorem asciiWords_lifted (os : Os) (started : os.Started) (H : Type) (enc : TypeId × Value → H) :
    ReturnsInHanded {} Try.checked os 8 .any (Rows.asciiWordsSpec.pre6 enc Try.prog Try.f8 Rows.asciiWordsRow.domain false) (Rows.asciiWordsSpec.post enc Try.prog Try.f8 false true false false) := by
  refine law_lifted (C := Try.checked) asciiWords_own started (by kernel_rfl) Try.func8
    (ChangeSpec.witness6 (enc := enc) (C := Try.checked) false ⟨#[], #[.string ByteArray.empty], []⟩ 8 (by kernel_rfl) (by kernel_rfl) (by kernel_rfl) (by kernel_rfl))
    (by kernel_rfl) (of_decide_eq_true (by kernel_rfl)) (tb := 4) (by kernel_rfl) Try.underlying4 rfl (fun ds h => by match ds, h with | [d0], _ => exact ⟨rfl, rfl, rfl⟩) ?_
  intro W base args ds p hval0 hA0 hlt hsz0
  have hval : ∀ (j : Nat) t v, Try.f8.params[j]? = some t → args[j]? = some v → Value.okWide Try.prog W .any base t v := hval0
  have hA : DataW.TrodAll enc Try.prog W 0 (fun _ => true) true Try.f8.params.toList args.toList ds p := hA0
  have hsz : (DataW.weightsEach Try.prog Try.f8.params.toList ds).all (· ≤ reachBytes) = true := hsz0
  rw [Try.params8] at hA hval hsz
  obtain ⟨v0, vs0, d0, ds0, p0, q0, hargs, rfl, rfl, h0, r0⟩ := trodAll_cons hA
  obtain ⟨rfl, rfl, rfl⟩ := trodAll_nil r0
  obtain rfl : args = #[v0] := by cases args; simp_all
  obtain ⟨a0, rfl, rfl, rfl, w0⟩ := open_string Try.underlying9 (hval 0 9 v0 rfl rfl) h0
  have z0 := sized_string hsz (j := 0) rfl rfl
  rw [size_data] at z0
  exact asciiWords_any (w := W) a0 z0

theorem asciiWords_over : Rows.asciiWordsRow.holds Try.pinned (OpenSpec.ofChange Rows.asciiWordsSpec) :=
  OpenClaim.holds_of_wide 8 Try.f8 rfl rfl rfl rfl rfl rfl rfl ⟨rfl, rfl, rfl, rfl, rfl⟩ rfl rfl rfl rfl rfl (by kernel_rfl) Try.func8 (by kernel_rfl)
    (of_decide_eq_true (by kernel_rfl)) (by unfold Func.isWrapper; first | (rw [if_pos (by decide +kernel)]; kernel_rfl) | (rw [if_neg (by decide +kernel)]; exact ⟨rfl, rfl⟩))
    (fun os started H enc _ => asciiWords_lifted os started H enc)

theorem asciiWords_proved : Rows.AsciiWordsSaid := asciiWords_over
#print axioms asciiWords_proved


end Go.Proofs.Ytfbimjfgklldaaa
