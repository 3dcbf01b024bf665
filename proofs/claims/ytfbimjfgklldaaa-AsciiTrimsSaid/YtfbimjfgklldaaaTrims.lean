/-
  AsciiTrims: a trimmed text has no blank at its ends, and is the text but for those; the law returns true for every text and all numbers, and what was there has not turned. No condition.
-/
import Derived.Test.YtfbimjfgklldaaaAsc7
import Derived.Test.YtfbimjfgklldaaaLaw
namespace Go.Proofs.Ytfbimjfgklldaaa
open Go.ChangeShapes Go.WideShapes Go.ChangeAt Go.RowKit Go.Proofs
open Go.ChangeMaps (open_string shut_string)

theorem trimF_head : ∀ {l : List UInt8} {c : UInt8} {r : List UInt8}, trimF l = c :: r → isSp c = false
  | [], _, _, h => by cases h
  | d :: l, c, r, h => by
    unfold trimF at h
    rw [List.dropWhile_cons] at h
    split at h
    · exact trimF_head (l := l) h
    · rename_i hd
      rw [← (List.cons.inj h).1]
      simpa using hd
theorem trimF_idem (l : List UInt8) : trimF (trimF l) = trimF l := by
  cases h : trimF l with
  | nil => rfl
  | cons c r =>
    unfold trimF
    rw [List.dropWhile_cons, if_neg (by simp [trimF_head h])]
theorem trimF_skip (p l : List UInt8) (h : ∀ c ∈ p, isSp c = true) : trimF (p ++ l) = trimF l := by
  induction p with
  | nil => rfl
  | cons c p ih =>
    rw [List.cons_append]
    have := ih (fun d hd => h d (by simp [hd]))
    unfold trimF at *
    rw [List.dropWhile_cons, if_pos (h c (by simp))]
    exact this
theorem trimR_skip (p l : List UInt8) (h : ∀ c ∈ p, isSp c = true) : trimR (l ++ p) = trimR l := by
  unfold trimR
  rw [List.reverse_append, trimF_skip p.reverse l.reverse (fun c hc => h c (List.mem_reverse.1 hc))]
theorem trimF_app (l p : List UInt8) (h : ∀ c ∈ p, isSp c = true) : trimR (trimF (l ++ p)) = trimR (trimF l) := by
  unfold trimF
  rw [List.dropWhile_append]
  split
  · rename_i he
    rw [List.isEmpty_iff.1 he]
    have : trimF p = [] := by
      have := trimF_skip p [] h
      rw [List.append_nil] at this
      rw [this]; rfl
    show trimR (trimF p) = trimR []
    rw [this]
  · exact trimR_skip p _ h
theorem trimL_eq (l : List UInt8) : trimL l = trimR (trimF l) := rfl
theorem trimL_pads (p l q : List UInt8) (hp : ∀ c ∈ p, isSp c = true) (hq : ∀ c ∈ q, isSp c = true) : trimL (p ++ l ++ q) = trimL l := by
  rw [trimL_eq, List.append_assoc, trimF_skip p _ hp, trimF_app l q hq, trimL_eq]
theorem trimR_pre (l : List UInt8) : ∃ t, l = trimR l ++ t := by
  obtain ⟨t, ht⟩ := List.dropWhile_suffix isSp (l := l.reverse)
  refine ⟨t.reverse, ?_⟩
  have := congrArg List.reverse ht
  rw [List.reverse_append, List.reverse_reverse] at this
  exact this.symm
theorem trimL_first {l : List UInt8} {c : UInt8} {r : List UInt8} (h : trimL l = c :: r) : isSp c = false := by
  rw [trimL_eq] at h
  obtain ⟨t, ht⟩ := trimR_pre (trimF l)
  rw [h, List.cons_append] at ht
  exact trimF_head ht
theorem trimL_last {l : List UInt8} {c : UInt8} {r : List UInt8} (h : trimL l = r ++ [c]) : isSp c = false := by
  unfold trimL at h
  have := congrArg List.reverse h
  rw [List.reverse_reverse, List.reverse_append] at this
  exact trimF_head this
theorem trimL_idem (l : List UInt8) : trimL (trimL l) = trimL l := by
  have h1 : trimF (trimL l) = trimL l := by
    cases h : trimL l with
    | nil => rfl
    | cons c r =>
      unfold trimF
      rw [List.dropWhile_cons, if_neg (by simp [trimL_first h])]
  rw [trimL_eq, h1]
  unfold trimL trimR
  rw [List.reverse_reverse, trimF_idem]
theorem trimL_len (l : List UInt8) : (trimL l).length ≤ l.length := by
  obtain ⟨t, ht⟩ := trimR_pre (trimF l)
  have h1 := congrArg List.length ht
  rw [List.length_append] at h1
  have h2 : (trimF l).length ≤ l.length := (List.dropWhile_sublist _).length_le
  rw [trimL_eq]
  omega
theorem rep_sp (k : Nat) (d : UInt8) (h : isSp d = true) : ∀ c ∈ List.replicate k d, isSp c = true := fun c hc => by rw [(List.mem_replicate.1 hc).2]; exact h
theorem append_list (a b : ByteArray) : (a ++ b).data.toList = a.data.toList ++ b.data.toList := by simp
theorem rep_snoc (k : Nat) (d : UInt8) : List.replicate (k + 1) d = List.replicate k d ++ [d] := List.replicate_succ'

theorem asciiTrims_any (s : ByteArray) (hs : s.size ≤ 140737488351232) (n : Int) (hn : -9223372036854775808 ≤ n ∧ n ≤ 9223372036854775807) (m : Int) (hm : -9223372036854775808 ≤ m ∧ m ≤ 9223372036854775807) (w : World) :
    Calls Try.prog 9 #[.string s, .int .i64 n, .int .i64 m] w fun e w' => e = .returned (.bool true) ∧ Below w.heap.size w w' := by
  by_cases hgo : ((s.size : Int) ≤ 3000 ∧ 0 ≤ n ∧ n ≤ 50) ∧ 0 ≤ m ∧ m ≤ 50
  · obtain ⟨⟨h1, h2, h3⟩, h4, h5⟩ := hgo
    obtain ⟨T, hT⟩ : ∃ T : ByteArray, T = ⟨(trimL s.data.toList).toArray⟩ := ⟨_, rfl⟩
    have HT := Lib.hid hT
    have HTL : Hid (T.data.toList = trimL s.data.toList) := Lib.hid (by rw [hT])
    clear hT
    have hTs : T.size ≤ 3000 := by
      have := trimL_len s.data.toList
      rw [← HTL.out, size_data, size_data] at this
      omega
    go_enter Try.func9, Try.ntmps9
    go_wp2_with fail
    refine (trim_any s (by omega) _).mono ?_
    rw [← HT.out]
    rintro e w1 ⟨rfl, hb1⟩
    go_wp2
    go_loop [8, 9] (fun x i => ∃ (k : Nat) (X : ByteArray), (k : Int) ≤ n ∧ i = .int .i64 k ∧ x = .string X ∧ X.data.toList = List.replicate k 32) (fun _ i => n.toNat - (intOf i).toNat)
    case atStart => exact ⟨0, ⟨#[]⟩, by omega, rfl, rfl, rfl⟩
    case round =>
      obtain ⟨k, X, hk, rfl, rfl, hX⟩ := hrel
      have HX := Lib.hid hX
      have hXs : X.size ≤ 50 := by rw [← size_data, hX, List.length_replicate]; omega
      clear hX
      by_cases hlt : (k : Int) < n
      · have hnext : Hid ((X ++ ⟨#[32]⟩ : ByteArray).data.toList = List.replicate (k + 1) 32) := Lib.hid (by rw [append_list, HX.out, rep_snoc])
        go_wp2
        go_round
        case rel => exact ⟨k + 1, _, by omega, by go_num, rfl, hnext.out⟩
        case measure => simp [intOf]; omega
      · go_wp2
        go_loop [10, 11] (fun x i => ∃ (k : Nat) (Y : ByteArray), (k : Int) ≤ m ∧ i = .int .i64 k ∧ x = .string Y ∧ Y.data.toList = List.replicate k 9) (fun _ i => m.toNat - (intOf i).toNat)
        case atStart => exact ⟨0, ⟨#[]⟩, by omega, rfl, rfl, rfl⟩
        case round =>
          obtain ⟨j, Y, hj, rfl, rfl, hY⟩ := hrel
          have HY := Lib.hid hY
          have hYs : Y.size ≤ 50 := by rw [← size_data, hY, List.length_replicate]; omega
          clear hY
          by_cases hjl : (j : Int) < m
          · have hnext : Hid ((Y ++ ⟨#[9]⟩ : ByteArray).data.toList = List.replicate (j + 1) 9) := Lib.hid (by rw [append_list, HY.out, rep_snoc])
            go_wp2
            go_round
            case rel => exact ⟨j + 1, _, by omega, by go_num, rfl, hnext.out⟩
            case measure => simp [intOf]; omega
          · have HP : Hid (trimL (X ++ s ++ Y : ByteArray).data.toList = T.data.toList) := Lib.hid (by
              rw [append_list, append_list, HX.out, HY.out, trimL_pads _ _ _ (rep_sp k 32 rfl) (rep_sp j 9 rfl), HTL.out])
            have HI : Hid (trimL T.data.toList = T.data.toList) := Lib.hid (by rw [HTL.out, trimL_idem])
            have hsum : (X ++ s ++ Y : ByteArray).size ≤ 1073741824 := by rw [ByteArray.size_append, ByteArray.size_append]; omega
            have heq : (T.data.toList == T.toList) = true := by rw [ByteArray.toList_eq]; exact beq_iff_eq.2 rfl
            by_cases hne : T.size = 0
            · have he := emptyYes hne
              go_wp2_with fail
              refine (trim_any _ hsum _).mono ?_
              rw [HP.out]
              rintro e w2 ⟨rfl, hb2⟩
              go_wp2_with fail
              refine (trim_any T (by omega) _).mono ?_
              rw [HI.out]
              rintro e w3 ⟨rfl, hb3⟩
              go_wp2_with fail
              refine (awake_any _).mono ?_
              rintro e w7 ⟨rfl, hb7⟩
              go_wp2
              go_ret
              exact ⟨rfl, below_then (below_then (below_then hb1 hb2) hb3) hb7⟩
            · have he := emptyNo hne
              have hpos : 0 < T.size := by omega
              have hx : T.size - 1 < T.size := by omega
              have hf := isSp_no (trimL_first (by rw [← HTL.out]; exact cons_of T hpos))
              have hl := isSp_no (trimL_last (by rw [← HTL.out]; exact snoc_of T hpos))
              have f32 := hf.1
              have f9 := hf.2
              have l32 := hl.1
              have l9 := hl.2
              clear hf hl
              go_wp2_with fail
              refine (trim_any _ hsum _).mono ?_
              rw [HP.out]
              rintro e w2 ⟨rfl, hb2⟩
              go_wp2_with fail
              refine (trim_any T (by omega) _).mono ?_
              rw [HI.out]
              rintro e w3 ⟨rfl, hb3⟩
              go_wp2_with fail
              refine (awake_any _).mono ?_
              rintro e w7 ⟨rfl, hb7⟩
              go_wp2
              go_ret
              exact ⟨rfl, below_then (below_then (below_then hb1 hb2) hb3) hb7⟩
  · rcases (by omega : (3000 < (s.size : Int)) ∨ ((s.size : Int) ≤ 3000 ∧ n < 0) ∨ ((s.size : Int) ≤ 3000 ∧ 0 ≤ n ∧ 50 < n) ∨ ((s.size : Int) ≤ 3000 ∧ 0 ≤ n ∧ n ≤ 50 ∧ m < 0) ∨ ((s.size : Int) ≤ 3000 ∧ 0 ≤ n ∧ n ≤ 50 ∧ 0 ≤ m ∧ 50 < m)) with h1 | ⟨h1, h2⟩ | ⟨h1, h2, h3⟩ | ⟨h1, h2, h3, h4⟩ | ⟨h1, h2, h3, h4, h5⟩
    all_goals
      clear hgo
      go_enter Try.func9, Try.ntmps9
      go_wp2_with fail
      refine (awake_any _).mono ?_
      rintro e w' ⟨rfl, hb1⟩
      go_wp2
      go_ret
      exact ⟨rfl, hb1⟩

theorem asciiTrims_own : ownKnob Try.prog.godebug = none := by kernel_rfl
set_option maxRecDepth 100000 in
theorem asciiTrims_lifted (os : Os) (started : os.Started) (H : Type) (enc : TypeId × Value → H) :
    ReturnsInHanded {} Try.checked os 9 .any (Rows.asciiTrimsSpec.pre6 enc Try.prog Try.f9 Rows.asciiTrimsRow.domain false) (Rows.asciiTrimsSpec.post enc Try.prog Try.f9 false true false false) := by
  refine law_lifted (C := Try.checked) asciiTrims_own started (by kernel_rfl) Try.func9
    (ChangeSpec.witness6 (enc := enc) (C := Try.checked) false ⟨#[], #[.string ByteArray.empty, .int .i64 0, .int .i64 0], []⟩ 8 (by kernel_rfl) (by kernel_rfl) (by kernel_rfl) (by kernel_rfl))
    (by kernel_rfl) (of_decide_eq_true (by kernel_rfl)) (tb := 4) (by kernel_rfl) Try.underlying4 rfl (fun ds h => by match ds, h with | [d0, d1, d2], _ => exact ⟨rfl, rfl, rfl⟩) ?_
  intro W base args ds p hval0 hA0 hlt hsz0
  have hval : ∀ (j : Nat) t v, Try.f9.params[j]? = some t → args[j]? = some v → Value.okWide Try.prog W .any base t v := hval0
  have hA : DataW.TrodAll enc Try.prog W 0 (fun _ => true) true Try.f9.params.toList args.toList ds p := hA0
  have hsz : (DataW.weightsEach Try.prog Try.f9.params.toList ds).all (· ≤ reachBytes) = true := hsz0
  rw [Try.params9] at hA hval hsz
  obtain ⟨v0, vs0, d0, ds0, p0, q0, hargs, rfl, rfl, h0, r0⟩ := trodAll_cons hA
  obtain ⟨v1, vs1, d1, ds1, p1, q1, rfl, rfl, rfl, h1, r1⟩ := trodAll_cons r0
  obtain ⟨v2, vs2, d2, ds2, p2, q2, rfl, rfl, rfl, h2, r2⟩ := trodAll_cons r1
  obtain ⟨rfl, rfl, rfl⟩ := trodAll_nil r2
  obtain rfl : args = #[v0, v1, v2] := by cases args; simp_all
  obtain ⟨a0, rfl, rfl, rfl, w0⟩ := open_string Try.underlying9 (hval 0 9 v0 rfl rfl) h0
  have z0 := sized_string hsz (j := 0) rfl rfl
  rw [size_data] at z0
  obtain ⟨a1, rfl, rfl, rfl, w1⟩ := open_int Try.underlying3 (hval 1 3 v1 rfl rfl) h1
  obtain ⟨a2, rfl, rfl, rfl, w2⟩ := open_int Try.underlying3 (hval 2 3 v2 rfl rfl) h2
  exact asciiTrims_any (w := W) a0 z0 a1 (bounds_i64 w1) a2 (bounds_i64 w2)

theorem asciiTrims_over : Rows.asciiTrimsRow.holds Try.pinned (OpenSpec.ofChange Rows.asciiTrimsSpec) :=
  OpenClaim.holds_of_wide 9 Try.f9 rfl rfl rfl rfl rfl rfl rfl ⟨rfl, rfl, rfl, rfl, rfl⟩ rfl rfl rfl rfl rfl (by kernel_rfl) Try.func9 (by kernel_rfl)
    (of_decide_eq_true (by kernel_rfl)) (by unfold Func.isWrapper; first | (rw [if_pos (by decide +kernel)]; kernel_rfl) | (rw [if_neg (by decide +kernel)]; exact ⟨rfl, rfl⟩))
    (fun os started H enc _ => asciiTrims_lifted os started H enc)

theorem asciiTrims_proved : Rows.AsciiTrimsSaid := asciiTrims_over
#print axioms asciiTrims_proved


end Go.Proofs.Ytfbimjfgklldaaa
