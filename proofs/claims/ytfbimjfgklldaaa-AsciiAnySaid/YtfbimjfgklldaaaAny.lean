/-
  AsciiAny: for every text and every list of texts Any tells whether it is one of them; the law returns true, and what was there has not turned. No condition.
-/
import Derived.Test.YtfbimjfgklldaaaAsc7
import Derived.Test.YtfbimjfgklldaaaLaw
namespace Go.Proofs.Ytfbimjfgklldaaa
open Go.ChangeShapes Go.WideShapes Go.ChangeAt Go.RowKit Go.Proofs
open Go.ChangeMaps (open_string shut_string)

theorem asciiAny_any (s : ByteArray) (hs : s.size ≤ 140737488351232) (v : Value) (zs : List ByteArray) (w : World) (hv : SliceAt w v (zs.map strV)) (hl : zs.length * 16 ≤ 140737488351232) (hz : ∀ z ∈ zs, z.size ≤ 140737488351232) :
    Calls Try.prog 4 #[.string s, v] w fun e w' => e = .returned (.bool true) ∧ Below w.heap.size w w' := by
  have HZ : Hid (∀ z ∈ zs, z.size ≤ 281474976710656) := Lib.hid fun z h => Nat.le_trans (hz z h) (by decide)
  clear hz
  go_enter Try.func4, Try.ntmps4
  go_wp2_with fail
  refine (total_any v zs 3000 w (by decide) (by omega) HZ.out hv).mono ?_
  rintro e w' ⟨⟨r, rfl, hr1, hr2⟩, rfl⟩
  by_cases hlong : 3000 < r + (s.size : Int)
  · go_wp2_with fail
    refine (awake_any _).mono ?_
    rintro e w' ⟨rfl, hb1⟩
    go_wp2
    go_ret
    exact ⟨rfl, hb1⟩
  · go_wp2_with fail
    refine (any_any v zs s _ (by omega) hv).mono ?_
    rintro e w' ⟨rfl, rfl⟩
    go_wp2_with fail
    refine (in_any v zs s _ (by omega) hv).mono ?_
    rintro e w' ⟨rfl, rfl⟩
    go_wp2_with fail
    refine (any_any _ [] s _ (by decide) (SliceAt.nil _)).mono ?_
    rw [hasS_nil]
    rintro e w' ⟨rfl, rfl⟩
    go_wp2_with fail
    refine (any_any _ [s] s _ (by simp) (SliceAt.lit _ _ _ _ _ rfl)).mono ?_
    rw [show hasS [s] s = true from (hasS_iff _ _).2 (List.mem_singleton.2 rfl)]
    rintro e w' ⟨rfl, rfl⟩
    go_wp2_with fail
    refine (awake_any _).mono ?_
    rintro e w7 ⟨rfl, hb7⟩
    go_wp2
    go_ret
    exact ⟨rfl, below_then (below_more (Below.refl _ _) _) hb7⟩

theorem asciiAny_own : ownKnob Try.prog.godebug = none := by kernel_rfl
theorem asciiAny_bytesStr : Try.prog.bytesOf 9 = 16 := by kernel_rfl
set_option maxRecDepth 100000 in
theorem asciiAny_lifted (os : Os) (started : os.Started) (H : Type) (enc : TypeId × Value → H) :
    ReturnsInHanded {} Try.checked os 4 .any (Rows.asciiAnySpec.pre6 enc Try.prog Try.f4 Rows.asciiAnyRow.domain false) (Rows.asciiAnySpec.post enc Try.prog Try.f4 false true false false) := by
  refine law_lifted (C := Try.checked) asciiAny_own started (by kernel_rfl) Try.func4
    (ChangeSpec.witness6 (enc := enc) (C := Try.checked) false ⟨#[], #[.string ByteArray.empty, .slice none 0 0], []⟩ 8 (by kernel_rfl) (by kernel_rfl) (by kernel_rfl) (by kernel_rfl))
    (by kernel_rfl) (of_decide_eq_true (by kernel_rfl)) (tb := 4) (by kernel_rfl) Try.underlying4 rfl (fun ds h => by match ds, h with | [d0, d1], _ => exact ⟨rfl, rfl, rfl⟩) ?_
  intro W base args ds p hval0 hA0 hlt hsz0
  have hval : ∀ (j : Nat) t v, Try.f4.params[j]? = some t → args[j]? = some v → Value.okWide Try.prog W .any base t v := hval0
  have hA : DataW.TrodAll enc Try.prog W 0 (fun _ => true) true Try.f4.params.toList args.toList ds p := hA0
  have hsz : (DataW.weightsEach Try.prog Try.f4.params.toList ds).all (· ≤ reachBytes) = true := hsz0
  rw [Try.params4] at hA hval hsz
  obtain ⟨v0, vs0, d0, ds0, p0, q0, hargs, rfl, rfl, h0, r0⟩ := trodAll_cons hA
  obtain ⟨v1, vs1, d1, ds1, p1, q1, rfl, rfl, rfl, h1, r1⟩ := trodAll_cons r0
  obtain ⟨rfl, rfl, rfl⟩ := trodAll_nil r1
  obtain rfl : args = #[v0, v1] := by cases args; simp_all
  have s1 := sized_at hsz (j := 1) (t := 25) (d := d1) rfl rfl
  obtain ⟨a0, rfl, rfl, rfl, w0⟩ := open_string Try.underlying9 (hval 0 9 v0 rfl rfl) h0
  have z0 := sized_string hsz (j := 0) rfl rfl
  rw [size_data] at z0
  obtain ⟨a1, g1, l1, z1⟩ := open_texts Try.underlying25 Try.underlying9 (by kernel_rfl) (hval 1 25 v1 rfl rfl) h1 s1
  rw [asciiAny_bytesStr] at l1
  exact asciiAny_any (w := W) a0 z0 v1 a1 g1 l1 z1

theorem asciiAny_over : Rows.asciiAnyRow.holds Try.pinned (OpenSpec.ofChange Rows.asciiAnySpec) :=
  OpenClaim.holds_of_wide 4 Try.f4 rfl rfl rfl rfl rfl rfl rfl ⟨rfl, rfl, rfl, rfl, rfl⟩ rfl rfl rfl rfl rfl (by kernel_rfl) Try.func4 (by kernel_rfl)
    (of_decide_eq_true (by kernel_rfl)) (by unfold Func.isWrapper; first | (rw [if_pos (by decide +kernel)]; kernel_rfl) | (rw [if_neg (by decide +kernel)]; exact ⟨rfl, rfl⟩))
    (fun os started H enc _ => asciiAny_lifted os started H enc)

theorem asciiAny_proved : Rows.AsciiAnySaid := asciiAny_over
#print axioms asciiAny_proved


end Go.Proofs.Ytfbimjfgklldaaa
