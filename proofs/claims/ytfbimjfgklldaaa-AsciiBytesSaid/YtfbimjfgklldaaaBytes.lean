/-
  AsciiBytes: a text is a token just where each of its bytes alone is one; the law returns true for every text, and what was there has not turned. No condition.
-/
import Derived.Test.YtfbimjfgklldaaaAsc7
import Derived.Test.YtfbimjfgklldaaaLaw
namespace Go.Proofs.Ytfbimjfgklldaaa
open Go.ChangeShapes Go.WideShapes Go.ChangeAt Go.RowKit Go.Proofs
open Go.ChangeMaps (open_string shut_string)

def okB (s : ByteArray) (k : Nat) : Bool := !s.data.toList.isEmpty && (s.data.toList.take k).all tokB
theorem okB_zero (s : ByteArray) : (!s.toList.isEmpty) = okB s 0 := by
  unfold okB
  rw [ByteArray.toList_eq, List.take_zero]
  simp
theorem okB_next (s : ByteArray) (k : Nat) (h : k < s.size) : okB s (k + 1) = (okB s k && tokB s[k]) := by
  unfold okB
  rw [take_snoc s k h, List.all_append, Bool.and_assoc]
  simp
theorem okB_all (s : ByteArray) (k : Nat) (h : s.size ≤ k) : okB s k = tokL s.data.toList := by
  unfold okB tokL
  rw [List.take_of_length_le (by rw [size_data]; exact h)]
theorem tokL_one (s : ByteArray) (k : Nat) (h : k < s.size) : tokL (s.extract k (k + 1)).data.toList = tokB s[k] := by
  rw [extract_list, take_snoc s k h, List.drop_append_of_le_length (by rw [List.length_take, size_data]; omega), List.drop_eq_nil_of_le (by rw [List.length_take]; omega)]
  unfold tokL
  simp

theorem asciiBytes_any (s : ByteArray) (hs : s.size ≤ 140737488351232) (w : World) :
    Calls Try.prog 7 #[.string s] w fun e w' => e = .returned (.bool true) ∧ Below w.heap.size w w' := by
  by_cases hlong : 3000 < (s.size : Int)
  · go_enter Try.func7, Try.ntmps7
    go_wp2_with fail
    refine (awake_any _).mono ?_
    rintro e w' ⟨rfl, hb1⟩
    go_wp2
    go_ret
    exact ⟨rfl, hb1⟩
  · have H0 := Lib.hid (okB_zero s)
    go_enter Try.func7, Try.ntmps7
    go_wp2
    go_loop [3, 4] (fun o i => ∃ (k : Nat) (b : Bool), k ≤ s.size ∧ i = .int .i64 k ∧ o = .bool b ∧ b = okB s k) (fun _ i => s.size - (intOf i).toNat)
    case atStart => exact ⟨0, _, Nat.zero_le _, rfl, rfl, H0.out⟩
    case round =>
      obtain ⟨k, b, hk, rfl, rfl, hb⟩ := hrel
      have HB := Lib.hid hb
      clear hb
      by_cases hlt : k < s.size
      · have HN := Lib.hid (okB_next s k hlt)
        have H1 := Lib.hid (tokL_one s k hlt)
        cases b
        · go_wp2
          go_round
          case rel => exact ⟨k + 1, false, by omega, by go_num, rfl, by rw [HN.out, ← HB.out]; rfl⟩
          case measure => simp [intOf]; omega
        · have hsz1 : (s.extract k (k + 1)).size ≤ 1073741824 := by rw [ByteArray.size_extract]; omega
          go_wp2_with (go_at_call 18; refine (token_any (s.extract k (k + 1)) hsz1 _).mono ?_; rw [H1.out]; rintro e w' ⟨rfl, rfl⟩)
          go_round
          case rel => exact ⟨k + 1, tokB s[k], by omega, by go_num, rfl, by rw [HN.out, ← HB.out]; rfl⟩
          case measure => simp [intOf]; omega
      · have HF : Hid (tokL s.data.toList = b) := Lib.hid (by rw [HB.out, okB_all s k (by omega)])
        go_wp2_with fail
        refine (token_any s (by omega) _).mono ?_
        rw [HF.out]
        rintro e w' ⟨rfl, rfl⟩
        go_wp2_with fail
        refine (awake_any _).mono ?_
        rintro e w7 ⟨rfl, hb7⟩
        go_wp2
        go_ret
        exact ⟨rfl, hb7⟩

theorem asciiBytes_own : ownKnob Try.prog.godebug = none := by kernel_rfl
set_option maxRecDepth 100000 in
theorem asciiBytes_lifted (os : Os) (started : os.Started) (H : Type) (enc : TypeId × Value → H) :
    ReturnsInHanded {} Try.checked os 7 .any (Rows.asciiBytesSpec.pre6 enc Try.prog Try.f7 Rows.asciiBytesRow.domain false) (Rows.asciiBytesSpec.post enc Try.prog Try.f7 false true false false) := by
  refine law_lifted (C := Try.checked) asciiBytes_own started (by kernel_rfl) Try.func7
    (ChangeSpec.witness6 (enc := enc) (C := Try.checked) false ⟨#[], #[.string ByteArray.empty], []⟩ 8 (by kernel_rfl) (by kernel_rfl) (by kernel_rfl) (by kernel_rfl))
    (by kernel_rfl) (of_decide_eq_true (by kernel_rfl)) (tb := 4) (by kernel_rfl) Try.underlying4 rfl (fun ds h => by match ds, h with | [d0], _ => exact ⟨rfl, rfl, rfl⟩) ?_
  intro W base args ds p hval0 hA0 hlt hsz0
  have hval : ∀ (j : Nat) t v, Try.f7.params[j]? = some t → args[j]? = some v → Value.okWide Try.prog W .any base t v := hval0
  have hA : DataW.TrodAll enc Try.prog W 0 (fun _ => true) true Try.f7.params.toList args.toList ds p := hA0
  have hsz : (DataW.weightsEach Try.prog Try.f7.params.toList ds).all (· ≤ reachBytes) = true := hsz0
  rw [Try.params7] at hA hval hsz
  obtain ⟨v0, vs0, d0, ds0, p0, q0, hargs, rfl, rfl, h0, r0⟩ := trodAll_cons hA
  obtain ⟨rfl, rfl, rfl⟩ := trodAll_nil r0
  obtain rfl : args = #[v0] := by cases args; simp_all
  obtain ⟨a0, rfl, rfl, rfl, w0⟩ := open_string Try.underlying9 (hval 0 9 v0 rfl rfl) h0
  have z0 := sized_string hsz (j := 0) rfl rfl
  rw [size_data] at z0
  exact asciiBytes_any (w := W) a0 z0

theorem asciiBytes_over : Rows.asciiBytesRow.holds Try.pinned (OpenSpec.ofChange Rows.asciiBytesSpec) :=
  OpenClaim.holds_of_wide 7 Try.f7 rfl rfl rfl rfl rfl rfl rfl ⟨rfl, rfl, rfl, rfl, rfl⟩ rfl rfl rfl rfl rfl (by kernel_rfl) Try.func7 (by kernel_rfl)
    (of_decide_eq_true (by kernel_rfl)) (by unfold Func.isWrapper; first | (rw [if_pos (by decide +kernel)]; kernel_rfl) | (rw [if_neg (by decide +kernel)]; exact ⟨rfl, rfl⟩))
    (fun os started H enc _ => asciiBytes_lifted os started H enc)

theorem asciiBytes_proved : Rows.AsciiBytesSaid := asciiBytes_over
#print axioms asciiBytes_proved


end Go.Proofs.Ytfbimjfgklldaaa
