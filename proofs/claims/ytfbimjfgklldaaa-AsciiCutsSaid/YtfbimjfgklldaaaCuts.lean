/-
  AsciiCuts: for every text and every byte Blanks and Split agree with the document's own answers; the law returns true, and what was there has not turned. No condition.
-/
import Derived.Test.YtfbimjfgklldaaaAsc7
import Derived.Test.YtfbimjfgklldaaaLaw
namespace Go.Proofs.Ytfbimjfgklldaaa
open Go.ChangeShapes Go.WideShapes Go.ChangeAt Go.RowKit Go.Proofs
open Go.ChangeMaps (open_string shut_string)

theorem asciiCuts_any (s : ByteArray) (hs : s.size ≤ 140737488351232) (sep : UInt8) (w : World) :
    Calls Try.prog 6 #[.string s, .int .u8 sep.toNat] w fun e w' => e = .returned (.bool true) ∧ Below w.heap.size w w' := by
  by_cases hlong : 3000 < (s.size : Int)
  · go_enter Try.func6, Try.ntmps6
    go_wp2_with fail
    refine (awake_any _).mono ?_
    rintro e w' ⟨rfl, hb1⟩
    go_wp2
    go_ret
    exact ⟨rfl, hb1⟩
  · have hlw : (wordsL s.data.toList).length ≤ 1073741824 := by have := wordsL_len s.data.toList; rw [size_data] at this; omega
    have hls : (splitL s.data.toList sep).length ≤ 1073741824 := by have := splitL_len s.data.toList sep; rw [size_data] at this; omega
    go_enter Try.func6, Try.ntmps6
    go_wp2_with fail
    refine (blanks_any s (by omega) _).mono ?_
    rintro e w1 ⟨⟨v1, rfl, hown1⟩, hb1⟩
    go_wp2_with fail
    refine (ref_blanks_any s (by omega) _).mono ?_
    rintro e w2 ⟨⟨v2, rfl, hown2⟩, hb2⟩
    go_wp2_with fail
    refine (texts_any v1 v2 _ _ _ ((SliceAt.own hown1).below hb2) (SliceAt.own hown2) hlw hlw).mono ?_
    rw [show eqLL (wordsL s.data.toList) (wordsL s.data.toList) = true from eqLL_yes rfl]
    rintro e w3 ⟨rfl, hm3⟩
    have HM3 := Lib.hid hm3
    clear hm3
    go_wp2_with fail
    refine (split_any s sep (by omega) _).mono ?_
    rintro e w4 ⟨⟨v4, rfl, hown4⟩, hb4⟩
    go_wp2_with fail
    refine (ref_split_any s sep (by omega) _).mono ?_
    rintro e w5 ⟨⟨v5, rfl, hown5⟩, hb5⟩
    go_wp2_with fail
    refine (texts_any v4 v5 _ _ _ ((SliceAt.own hown4).below hb5) (SliceAt.own hown5) hls hls).mono ?_
    rw [show eqLL (splitL s.data.toList sep) (splitL s.data.toList sep) = true from eqLL_yes rfl]
    rintro e w6 ⟨rfl, hm6⟩
    have HM6 := Lib.hid hm6
    clear hm6
    go_wp2_with fail
    refine (awake_any _).mono ?_
    rintro e w7 ⟨rfl, hb7⟩
    go_wp2
    go_ret
    exact ⟨rfl, below_then (below_draws (below_then (below_then (below_draws (below_then hb1 hb2) HM3.out) hb4) hb5) HM6.out) hb7⟩

theorem asciiCuts_own : ownKnob Try.prog.godebug = none := by kernel_rfl
set_option maxRecDepth 100000 in
theorem asciiCuts_lifted (os : Os) (started : os.Started) (H : Type) (enc : TypeId × Value → H) :
    ReturnsInHanded {} Try.checked os 6 .any (Rows.asciiCutsSpec.pre6 enc Try.prog Try.f6 Rows.asciiCutsRow.domain false) (Rows.asciiCutsSpec.post enc Try.prog Try.f6 false true false false) := by
  refine law_lifted (C := Try.checked) asciiCuts_own started (by kernel_rfl) Try.func6
    (ChangeSpec.witness6 (enc := enc) (C := Try.checked) false ⟨#[], #[.string ByteArray.empty, .int .u8 0], []⟩ 8 (by kernel_rfl) (by kernel_rfl) (by kernel_rfl) (by kernel_rfl))
    (by kernel_rfl) (of_decide_eq_true (by kernel_rfl)) (tb := 4) (by kernel_rfl) Try.underlying4 rfl (fun ds h => by match ds, h with | [d0, d1], _ => exact ⟨rfl, rfl, rfl⟩) ?_
  intro W base args ds p hval0 hA0 hlt hsz0
  have hval : ∀ (j : Nat) t v, Try.f6.params[j]? = some t → args[j]? = some v → Value.okWide Try.prog W .any base t v := hval0
  have hA : DataW.TrodAll enc Try.prog W 0 (fun _ => true) true Try.f6.params.toList args.toList ds p := hA0
  have hsz : (DataW.weightsEach Try.prog Try.f6.params.toList ds).all (· ≤ reachBytes) = true := hsz0
  rw [Try.params6] at hA hval hsz
  obtain ⟨v0, vs0, d0, ds0, p0, q0, hargs, rfl, rfl, h0, r0⟩ := trodAll_cons hA
  obtain ⟨v1, vs1, d1, ds1, p1, q1, rfl, rfl, rfl, h1, r1⟩ := trodAll_cons r0
  obtain ⟨rfl, rfl, rfl⟩ := trodAll_nil r1
  obtain rfl : args = #[v0, v1] := by cases args; simp_all
  obtain ⟨a0, rfl, rfl, rfl, w0⟩ := open_string Try.underlying9 (hval 0 9 v0 rfl rfl) h0
  have z0 := sized_string hsz (j := 0) rfl rfl
  rw [size_data] at z0
  obtain ⟨a1, rfl, rfl, rfl, w1⟩ := open_int Try.underlying5 (hval 1 5 v1 rfl rfl) h1
  obtain ⟨c1, rfl⟩ := byte_of_num w1
  exact asciiCuts_any (w := W) a0 z0 c1

theorem asciiCuts_over : Rows.asciiCutsRow.holds Try.pinned (OpenSpec.ofChange Rows.asciiCutsSpec) :=
  OpenClaim.holds_of_wide 6 Try.f6 rfl rfl rfl rfl rfl rfl rfl ⟨rfl, rfl, rfl, rfl, rfl⟩ rfl rfl rfl rfl rfl (by kernel_rfl) Try.func6 (by kernel_rfl)
    (of_decide_eq_true (by kernel_rfl)) (by unfold Func.isWrapper; first | (rw [if_pos (by decide +kernel)]; kernel_rfl) | (rw [if_neg (by decide +kernel)]; exact ⟨rfl, rfl⟩))
    (fun os started H enc _ => asciiCuts_lifted os started H enc)

theorem asciiCuts_proved : Rows.AsciiCutsSaid := asciiCuts_over
#print axioms asciiCuts_proved


end Go.Proofs.Ytfbimjfgklldaaa
